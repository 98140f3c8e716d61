/- The law FnExactLiftControl, walked over the contracts of both functions and of those that copy, compare, mark and look (made by gen_ctl.py). No condition. -/
import Derived.Test.YtigiechidcndpaaTilS
import Derived.Test.YtigiechidcndpaaLftI
set_option linter.unusedVariables false
set_option linter.unusedSimpArgs false
namespace Go.Proofs.Ytigiechidcndpaa
open Go.RowKit

set_option maxRecDepth 100000 in
set_option maxHeartbeats 3200000 in
theorem FnExactLiftControl_walk (J0 : Int) (a0 : Option Addr) (n0 cap0 : Nat) (z0 : List Int) (c0 : Option Addr) (cc0 : Nat) (l0 : List Lb) (x1 : Int) (w : World) (hJ : (Lit.int .i64 J0).wf = true) (r0 : IsRow .i64 w a0 n0 cap0 z0) (w0 : ArgL w c0 l0) (m0 : l0.length ≤ maxLen) (hx1 : (Lit.int .i64 x1).wf = true) :
    Calls Try.prog 7 #[.agg #[.int .i64 J0, .slice a0 n0 cap0, .slice c0 l0.length cc0], .int .i64 x1] w fun e w' => e = .returned (.bool true) ∧ Below w.heap.size w w' := by
  unfold maxLen at m0
  have mx := irow_max r0
  by_cases hn : n0 ≤ 1048576
  rotate_left
  · have Z := Lib.hid (fun W => szControl_out1 J0 a0 n0 cap0 c0 l0.length cc0 W (by omega) mx)
    clear r0 w0
    go_enter Try.func7, Try.ntmps7
    go_wp2_with (go_at_call 19; (with_reducible refine (Z.out _).mono ?_); rintro e w' ⟨rfl, rfl⟩)
    go_ret
    exact ⟨rfl, ((Below.refl _ _).alloc (Nat.le_refl _) _).alloc (by simp) _⟩
  by_cases hs : n0 + l0.length ≤ 1048576
  rotate_left
  · have Z := Lib.hid (fun W => szControl_out2 J0 a0 n0 cap0 c0 l0.length cc0 W hn (by omega) (by omega))
    clear r0 w0
    go_enter Try.func7, Try.ntmps7
    go_wp2_with (go_at_call 19; (with_reducible refine (Z.out _).mono ?_); rintro e w' ⟨rfl, rfl⟩)
    go_ret
    exact ⟨rfl, ((Below.refl _ _).alloc (Nat.le_refl _) _).alloc (by simp) _⟩
  have T := Lib.hid (fun W h g => toControl_walk J0 a0 n0 cap0 z0 c0 cc0 l0 W h g hn (by omega))
  have hk := irow_len r0
  generalize z0.take n0 = t0 at T hk
  subst hk
  have Z := Lib.hid (fun W => szControl_in J0 a0 t0.length cap0 c0 l0.length cc0 W hs)
  have Q := Lib.hid (fun va1 vc1 va2 vc2 b1 b2 W h1 h2 => eqControl_same J0 va1 vc1 va2 vc2 t0 l0 b1 b2 W h1 h2 (by omega) (by omega))
  have CS := Lib.hid (fun va vc b W h => specLift J0 x1 va vc t0 l0 b W h (by omega) (by omega) hJ hx1)
  have CI := Lib.hid (fun va vc b W h => implLift J0 x1 va vc t0 l0 b W h (by omega) (by omega) hJ hx1)
  have M := Lib.hid (fun va vc b W h => markControl_at J0 va vc t0 l0 b W h (by omega) (by omega))
  have hzl : (t0).length ≤ 2000000 := by have h : (t0).length = t0.length := rfl; omega
  generalize liftH J0 x1 = H1 at CS CI
  generalize liftOk J0 x1 = r at CS CI
  have hrr : (r != r) = false := by simp
  have QR := Lib.hid (fun va1 vc1 va2 vc2 b1 b2 W h1 h2 => eqControl_same H1 va1 vc1 va2 vc2 t0 l0 b1 b2 W h1 h2 (by omega) (by omega))
  have MR := Lib.hid (fun va vc b W h => markControl_at H1 va vc t0 l0 b W h (by omega) (by omega))
  have HR := Lib.hid (fun va vc b W h => heldControl_at H1 va vc t0.length l0.length b W 1 h (by omega) (by omega) (by omega))
  have KF := Lib.hid (show ∀ W, Below ((w.alloc (.cells #[.int .i64 J0, .slice a0 t0.length cap0, .slice c0 l0.length cc0] 40)).alloc (.cells #[.int .i64 J0, .slice a0 t0.length cap0, .slice c0 l0.length cc0] 40)).heap.size ((w.alloc (.cells #[.int .i64 J0, .slice a0 t0.length cap0, .slice c0 l0.length cc0] 40)).alloc (.cells #[.int .i64 J0, .slice a0 t0.length cap0, .slice c0 l0.length cc0] 40)) W → W.cell? ⟨w.heap.size, 0, none⟩ = some (.int .i64 J0) ∧ W.cell? ⟨w.heap.size, 1, none⟩ = some (.slice a0 t0.length cap0) ∧ W.cell? ⟨w.heap.size, 2, none⟩ = some (.slice c0 l0.length cc0) ∧ IsRow .i64 W a0 t0.length cap0 z0 ∧ ArgL W c0 l0 ∧ Below w.heap.size w W from fun W hb => ⟨cell_below (by simp [go_sem]) hb, cell_below (by simp [go_sem]) hb, cell_below (by simp [go_sem]) hb, irow_below (irow_alloc (irow_alloc r0 _) _) hb, ((w0.alloc _).alloc _).below hb, (((Below.refl w.heap.size w).alloc (Nat.le_refl _) _).alloc (by simp) _).trans (hb.mono (by simp <;> omega))⟩)
  have S := Lib.hid (Below.refl ((w.alloc (.cells #[.int .i64 J0, .slice a0 t0.length cap0, .slice c0 l0.length cc0] 40)).alloc (.cells #[.int .i64 J0, .slice a0 t0.length cap0, .slice c0 l0.length cc0] 40)).heap.size ((w.alloc (.cells #[.int .i64 J0, .slice a0 t0.length cap0, .slice c0 l0.length cc0] 40)).alloc (.cells #[.int .i64 J0, .slice a0 t0.length cap0, .slice c0 l0.length cc0] 40)))
  unfold ctlV at Q CS CI M QR MR HR
  clear r0 w0
  go_enter Try.func7, Try.ntmps7
  go_wp2_with (go_at_call 19; (with_reducible refine (Z.out _).mono ?_); rintro e w' ⟨rfl, rfl⟩)
  obtain ⟨xa0, xa1, xa2⟩ := (show _ ∧ _ ∧ _ from ⟨(KF.out _ S.out).1, (KF.out _ S.out).2.1, (KF.out _ S.out).2.2.1⟩)
  go_wp2_with fail
  refine (T.out _ (KF.out _ S.out).2.2.2.1 (KF.out _ S.out).2.2.2.2.1).mono ?_
  rintro e w1_ ⟨va_s, vc_s, rfl, o_, b_⟩
  obtain ⟨A_s, a_s, C_s, c_s, rfl, rfl⟩ := o_.slice
  clear xa0 xa1 xa2
  have z1_ := b_.size
  try simp only [World.size_alloc] at z1_
  try simp only [World.size_drew] at z1_
  have S := Lib.hid (S.out.trans (b_.mono S.out.size))
  have O_s := Lib.hid o_
  have L_s := fun k hk => o_.ltB k hk
  try simp only [World.size_alloc] at L_s
  try simp only [World.size_drew] at L_s
  clear o_ b_
  unfold ctlV
  go_wp2_with fail
  refine (CS.out _ _ _ _ O_s.out).mono ?_
  rintro e w2_ ⟨va_w, vc_w, rfl, o_, b_⟩
  obtain ⟨A_w, a_w, C_w, c_w, rfl, rfl⟩ := o_.slice
  have z2_ := b_.size
  try simp only [World.size_alloc] at z2_
  try simp only [World.size_drew] at z2_
  have S := Lib.hid (S.out.trans (b_.mono S.out.size))
  have O_s := Lib.hid (O_s.out.below b_)
  have O_w := Lib.hid o_
  have L_w := fun k hk => o_.ltB k hk
  try simp only [World.size_alloc] at L_w
  try simp only [World.size_drew] at L_w
  clear o_ b_
  unfold ctlV
  have S := Lib.hid (S.out.alloc S.out.size (.cells #[.int .i64 H1, .slice A_w t0.length a_w, .slice C_w l0.length c_w] 27))
  have O_s := Lib.hid (O_s.out.alloc (.cells #[.int .i64 H1, .slice A_w t0.length a_w, .slice C_w l0.length c_w] 27))
  have O_w := Lib.hid (O_w.out.alloc (.cells #[.int .i64 H1, .slice A_w t0.length a_w, .slice C_w l0.length c_w] 27))
  have X_w := Lib.hid (boxV_new w2_ [.int .i64 H1, .slice A_w t0.length a_w, .slice C_w l0.length c_w] 27)
  have zb_w := World.size_alloc w2_ (.cells #[.int .i64 H1, .slice A_w t0.length a_w, .slice C_w l0.length c_w] 27)
  obtain ⟨xa0, xa1, xa2⟩ := (show _ ∧ _ ∧ _ from ⟨(KF.out _ S.out).1, (KF.out _ S.out).2.1, (KF.out _ S.out).2.2.1⟩)
  go_wp2_with fail
  refine (T.out _ (KF.out _ S.out).2.2.2.1 (KF.out _ S.out).2.2.2.2.1).mono ?_
  rintro e w3_ ⟨va_x, vc_x, rfl, o_, b_⟩
  obtain ⟨A_x, a_x, C_x, c_x, rfl, rfl⟩ := o_.slice
  clear xa0 xa1 xa2
  have z3_ := b_.size
  try simp only [World.size_alloc] at z3_
  try simp only [World.size_drew] at z3_
  have S := Lib.hid (S.out.trans (b_.mono S.out.size))
  have O_w := Lib.hid (O_w.out.below b_)
  have X_w := Lib.hid (X_w.out.below b_)
  have O_x := Lib.hid o_
  have L_x := fun k hk => o_.ltB k hk
  try simp only [World.size_alloc] at L_x
  try simp only [World.size_drew] at L_x
  clear o_ b_
  unfold ctlV
  have S := Lib.hid (S.out.alloc S.out.size (.cells #[.int .i64 J0, .slice A_x t0.length a_x, .slice C_x l0.length c_x] 27))
  have O_w := Lib.hid (O_w.out.alloc (.cells #[.int .i64 J0, .slice A_x t0.length a_x, .slice C_x l0.length c_x] 27))
  have O_x := Lib.hid (O_x.out.alloc (.cells #[.int .i64 J0, .slice A_x t0.length a_x, .slice C_x l0.length c_x] 27))
  have X_w := Lib.hid (X_w.out.alloc (.cells #[.int .i64 J0, .slice A_x t0.length a_x, .slice C_x l0.length c_x] 27))
  have X_x := Lib.hid (boxV_new w3_ [.int .i64 J0, .slice A_x t0.length a_x, .slice C_x l0.length c_x] 27)
  have zb_x := World.size_alloc w3_ (.cells #[.int .i64 J0, .slice A_x t0.length a_x, .slice C_x l0.length c_x] 27)
  obtain ⟨yx_0, yx_1, yx_2⟩ := X_x.out.three
  go_wp2_with fail
  refine (CI.out _ _ _ _ O_x.out).mono ?_
  rintro e w4_ ⟨va_g, vc_g, rfl, o_, b_⟩
  obtain ⟨A_g, a_g, C_g, c_g, rfl, rfl⟩ := o_.slice
  have z4_ := b_.size
  try simp only [World.size_alloc] at z4_
  try simp only [World.size_drew] at z4_
  have S := Lib.hid (S.out.trans (b_.mono S.out.size))
  have O_w := Lib.hid (O_w.out.below b_)
  have O_x := Lib.hid (O_x.out.below b_)
  have X_w := Lib.hid (X_w.out.below b_)
  have X_x := Lib.hid (X_x.out.below b_)
  have O_g := Lib.hid o_
  have L_g := fun k hk => o_.ltB k hk
  try simp only [World.size_alloc] at L_g
  try simp only [World.size_drew] at L_g
  clear o_ b_
  unfold ctlV
  have S := Lib.hid (S.out.alloc S.out.size (.cells #[.int .i64 H1, .slice A_g t0.length a_g, .slice C_g l0.length c_g] 27))
  have O_w := Lib.hid (O_w.out.alloc (.cells #[.int .i64 H1, .slice A_g t0.length a_g, .slice C_g l0.length c_g] 27))
  have O_x := Lib.hid (O_x.out.alloc (.cells #[.int .i64 H1, .slice A_g t0.length a_g, .slice C_g l0.length c_g] 27))
  have O_g := Lib.hid (O_g.out.alloc (.cells #[.int .i64 H1, .slice A_g t0.length a_g, .slice C_g l0.length c_g] 27))
  have X_w := Lib.hid (X_w.out.alloc (.cells #[.int .i64 H1, .slice A_g t0.length a_g, .slice C_g l0.length c_g] 27))
  have X_x := Lib.hid (X_x.out.alloc (.cells #[.int .i64 H1, .slice A_g t0.length a_g, .slice C_g l0.length c_g] 27))
  have X_g := Lib.hid (boxV_new w4_ [.int .i64 H1, .slice A_g t0.length a_g, .slice C_g l0.length c_g] 27)
  have zb_g := World.size_alloc w4_ (.cells #[.int .i64 H1, .slice A_g t0.length a_g, .slice C_g l0.length c_g] 27)
  clear yx_0 yx_1 yx_2
  obtain ⟨yg_0, yg_1, yg_2⟩ := X_g.out.three
  obtain ⟨yw_0, yw_1, yw_2⟩ := X_w.out.three
  go_wp2_with fail
  refine (QR.out _ _ _ _ _ _ _ O_g.out O_w.out).mono ?_
  rintro e w5_ ⟨rfl, b_⟩
  have z5_ := b_.size
  try simp only [World.size_alloc] at z5_
  try simp only [World.size_drew] at z5_
  have S := Lib.hid (S.out.trans (b_.mono S.out.size))
  have O_w := Lib.hid (O_w.out.below b_)
  have O_x := Lib.hid (O_x.out.below b_)
  have O_g := Lib.hid (O_g.out.below b_)
  have X_w := Lib.hid (X_w.out.below b_)
  have X_x := Lib.hid (X_x.out.below b_)
  have X_g := Lib.hid (X_g.out.below b_)
  clear b_
  clear yg_0 yg_1 yg_2
  clear yw_0 yw_1 yw_2
  obtain ⟨xa0, xa1, xa2⟩ := (show _ ∧ _ ∧ _ from ⟨(KF.out _ S.out).1, (KF.out _ S.out).2.1, (KF.out _ S.out).2.2.1⟩)
  obtain ⟨yx_0, yx_1, yx_2⟩ := X_x.out.three
  go_wp2_with fail
  go_region_held3 (fun w' => w'.cell? ⟨w3_.heap.size, 0, none⟩ = some (.int .i64 J0) ∧ w'.cell? ⟨w3_.heap.size, 1, none⟩ = some (.slice A_x t0.length a_x) ∧ w'.cell? ⟨w3_.heap.size, 2, none⟩ = some (.slice C_x l0.length c_x) ∧ w'.cell? ⟨w.heap.size, 0, none⟩ = some (.int .i64 J0) ∧ w'.cell? ⟨w.heap.size, 1, none⟩ = some (.slice a0 t0.length cap0) ∧ w'.cell? ⟨w.heap.size, 2, none⟩ = some (.slice c0 l0.length cc0))
    (first | exact ⟨yx_0, yx_1, yx_2, xa0, xa1, xa2⟩ | exact K1_.out | exact K2_.out)
    (first | (go_at_call 21; (with_reducible refine (T.out _ ?_ ?_).mono ?_); (exact (KF.out _ S.out).2.2.2.1); (exact (KF.out _ S.out).2.2.2.2.1); rintro e w6_ ⟨va_t, vc_t, rfl, o_, b1_⟩; obtain ⟨A_t, a_t, C_t, c_t, rfl, rfl⟩ := o_.slice; unfold ctlV; replace b1_ := undrew b1_; have S1_ := Lib.hid (S.out.trans (b1_.mono S.out.size)); have P1_w := Lib.hid (O_w.out.below b1_); have P1_x := Lib.hid (O_x.out.below b1_); have P1_g := Lib.hid (O_g.out.below b1_); have X1_w := Lib.hid (X_w.out.below b1_); have X1_x := Lib.hid (X_x.out.below b1_); have X1_g := Lib.hid (X_g.out.below b1_); have K1_ := Lib.hid (And.intro X1_x.out.three.1 (And.intro X1_x.out.three.2.1 (And.intro X1_x.out.three.2.2 (And.intro (KF.out _ S1_.out).1 (And.intro (KF.out _ S1_.out).2.1 (KF.out _ S1_.out).2.2.1)))))) | (go_at_call 22; (with_reducible refine (Q.out _ _ _ _ _ _ _ P1_x.out o_).mono ?_); rintro e w7_ ⟨rfl, b2_⟩; have S2_ := Lib.hid (S1_.out.trans (b2_.mono S1_.out.size)); have P2_w := Lib.hid (P1_w.out.below b2_); have P2_x := Lib.hid (P1_x.out.below b2_); have P2_g := Lib.hid (P1_g.out.below b2_); have X2_w := Lib.hid (X1_w.out.below b2_); have X2_x := Lib.hid (X1_x.out.below b2_); have X2_g := Lib.hid (X1_g.out.below b2_); have K2_ := Lib.hid (And.intro X2_x.out.three.1 (And.intro X2_x.out.three.2.1 (And.intro X2_x.out.three.2.2 (And.intro (KF.out _ S2_.out).1 (And.intro (KF.out _ S2_.out).2.1 (KF.out _ S2_.out).2.2.1)))))))
  have S := S2_
  have O_w := P2_w
  have O_x := P2_x
  have O_g := P2_g
  have X_w := X2_w
  have X_x := X2_x
  have X_g := X2_g
  have z6_ := b1_.size
  have z7_ := b2_.size
  try simp only [World.size_alloc] at z6_ z7_
  try simp only [World.size_drew] at z6_ z7_
  clear o_ b1_ b2_ S1_ S2_ K1_ K2_ P1_w P2_w P1_x P2_x P1_g P2_g X1_w X2_w X1_x X2_x X1_g X2_g
  clear xa0 xa1 xa2
  clear yx_0 yx_1 yx_2
  obtain ⟨yx_0, yx_1, yx_2⟩ := X_x.out.three
  go_wp2_with fail
  refine (M.out _ _ _ _ O_x.out 1 _ (by first | omega | (push_cast; omega)) (by omega)).mono ?_
  rintro e w8_ ⟨rfl, -, g_⟩
  have z8_ := g_.size
  try simp only [World.size_alloc] at z8_
  try simp only [World.size_drew] at z8_
  clear yx_0 yx_1 yx_2
  have S := Lib.hid (g_.below S.out S.out.size (fun k hk => by have := L_x k hk; have := S.out.size; simp only [World.size_alloc] at *; omega))
  have O_w := Lib.hid (O_w.out.in g_ (fun k hk e => by have := L_w k hk; have := L_x k e; omega))
  have O_g := Lib.hid (O_g.out.in g_ (fun k hk e => by have := L_g k hk; have := L_x k e; omega))
  have X_w := Lib.hid (X_w.out.in g_ (fun e => by have := L_x _ e; omega))
  have X_x := Lib.hid (X_x.out.in g_ (fun e => by have := L_x _ e; omega))
  have X_g := Lib.hid (X_g.out.in g_ (fun e => by have := L_x _ e; omega))
  clear g_
  obtain ⟨yg_0, yg_1, yg_2⟩ := X_g.out.three
  obtain ⟨yw_0, yw_1, yw_2⟩ := X_w.out.three
  go_wp2_with fail
  refine (QR.out _ _ _ _ _ _ _ O_g.out O_w.out).mono ?_
  rintro e w9_ ⟨rfl, b_⟩
  have z9_ := b_.size
  try simp only [World.size_alloc] at z9_
  try simp only [World.size_drew] at z9_
  have S := Lib.hid (S.out.trans (b_.mono S.out.size))
  have O_w := Lib.hid (O_w.out.below b_)
  have O_g := Lib.hid (O_g.out.below b_)
  have X_w := Lib.hid (X_w.out.below b_)
  have X_g := Lib.hid (X_g.out.below b_)
  clear b_
  clear yg_0 yg_1 yg_2
  clear yw_0 yw_1 yw_2
  obtain ⟨yg_0, yg_1, yg_2⟩ := X_g.out.three
  go_wp2_with fail
  refine (MR.out _ _ _ _ O_g.out 1 _ (by first | omega | (push_cast; omega)) (by omega)).mono ?_
  rintro e w10_ ⟨rfl, o_, g_⟩
  have z10_ := g_.size
  try simp only [World.size_alloc] at z10_
  try simp only [World.size_drew] at z10_
  clear yg_0 yg_1 yg_2
  have S := Lib.hid (g_.below S.out S.out.size (fun k hk => by have := L_g k hk; have := S.out.size; simp only [World.size_alloc] at *; omega))
  have O_w := Lib.hid (O_w.out.in g_ (fun k hk e => by have := L_w k hk; have := L_g k e; omega))
  have X_w := Lib.hid (X_w.out.in g_ (fun e => by have := L_g _ e; omega))
  have X_g := Lib.hid (X_g.out.in g_ (fun e => by have := L_g _ e; omega))
  have O_g := Lib.hid o_
  clear o_ g_
  obtain ⟨yg_0, yg_1, yg_2⟩ := X_g.out.three
  go_wp2_with fail
  refine (HR.out _ _ _ _ O_g.out).mono ?_
  rintro e w11_ ⟨rfl, b_⟩
  have z11_ := b_.size
  try simp only [World.size_alloc] at z11_
  try simp only [World.size_drew] at z11_
  have S := Lib.hid (S.out.trans (b_.mono S.out.size))
  have O_w := Lib.hid (O_w.out.below b_)
  have O_g := Lib.hid (O_g.out.below b_)
  have X_w := Lib.hid (X_w.out.below b_)
  have X_g := Lib.hid (X_g.out.below b_)
  clear b_
  clear yg_0 yg_1 yg_2
  obtain ⟨xa0, xa1, xa2⟩ := (show _ ∧ _ ∧ _ from ⟨(KF.out _ S.out).1, (KF.out _ S.out).2.1, (KF.out _ S.out).2.2.1⟩)
  go_wp2_with fail
  refine (T.out _ (KF.out _ S.out).2.2.2.1 (KF.out _ S.out).2.2.2.2.1).mono ?_
  rintro e w12_ ⟨va_h, vc_h, rfl, o_, b_⟩
  obtain ⟨A_h, a_h, C_h, c_h, rfl, rfl⟩ := o_.slice
  clear xa0 xa1 xa2
  have z12_ := b_.size
  try simp only [World.size_alloc] at z12_
  try simp only [World.size_drew] at z12_
  have S := Lib.hid (S.out.trans (b_.mono S.out.size))
  have O_w := Lib.hid (O_w.out.below b_)
  have O_g := Lib.hid (O_g.out.below b_)
  have X_w := Lib.hid (X_w.out.below b_)
  have X_g := Lib.hid (X_g.out.below b_)
  have O_h := Lib.hid o_
  have L_h := fun k hk => o_.ltB k hk
  try simp only [World.size_alloc] at L_h
  try simp only [World.size_drew] at L_h
  clear o_ b_
  unfold ctlV
  go_wp2_with fail
  refine (CI.out _ _ _ _ O_h.out).mono ?_
  rintro e w13_ ⟨va_q, vc_q, rfl, o_, b_⟩
  obtain ⟨A_q, a_q, C_q, c_q, rfl, rfl⟩ := o_.slice
  have z13_ := b_.size
  try simp only [World.size_alloc] at z13_
  try simp only [World.size_drew] at z13_
  have S := Lib.hid (S.out.trans (b_.mono S.out.size))
  have O_w := Lib.hid (O_w.out.below b_)
  have O_g := Lib.hid (O_g.out.below b_)
  have O_h := Lib.hid (O_h.out.below b_)
  have X_w := Lib.hid (X_w.out.below b_)
  have X_g := Lib.hid (X_g.out.below b_)
  have O_q := Lib.hid o_
  have L_q := fun k hk => o_.ltB k hk
  try simp only [World.size_alloc] at L_q
  try simp only [World.size_drew] at L_q
  clear o_ b_
  unfold ctlV
  have S := Lib.hid (S.out.alloc S.out.size (.cells #[.int .i64 H1, .slice A_q t0.length a_q, .slice C_q l0.length c_q] 27))
  have O_w := Lib.hid (O_w.out.alloc (.cells #[.int .i64 H1, .slice A_q t0.length a_q, .slice C_q l0.length c_q] 27))
  have O_g := Lib.hid (O_g.out.alloc (.cells #[.int .i64 H1, .slice A_q t0.length a_q, .slice C_q l0.length c_q] 27))
  have O_h := Lib.hid (O_h.out.alloc (.cells #[.int .i64 H1, .slice A_q t0.length a_q, .slice C_q l0.length c_q] 27))
  have O_q := Lib.hid (O_q.out.alloc (.cells #[.int .i64 H1, .slice A_q t0.length a_q, .slice C_q l0.length c_q] 27))
  have X_w := Lib.hid (X_w.out.alloc (.cells #[.int .i64 H1, .slice A_q t0.length a_q, .slice C_q l0.length c_q] 27))
  have X_g := Lib.hid (X_g.out.alloc (.cells #[.int .i64 H1, .slice A_q t0.length a_q, .slice C_q l0.length c_q] 27))
  have X_q := Lib.hid (boxV_new w13_ [.int .i64 H1, .slice A_q t0.length a_q, .slice C_q l0.length c_q] 27)
  have zb_q := World.size_alloc w13_ (.cells #[.int .i64 H1, .slice A_q t0.length a_q, .slice C_q l0.length c_q] 27)
  obtain ⟨yq_0, yq_1, yq_2⟩ := X_q.out.three
  obtain ⟨yw_0, yw_1, yw_2⟩ := X_w.out.three
  go_wp2_with fail
  refine (QR.out _ _ _ _ _ _ _ O_q.out O_w.out).mono ?_
  rintro e w14_ ⟨rfl, b_⟩
  have z14_ := b_.size
  try simp only [World.size_alloc] at z14_
  try simp only [World.size_drew] at z14_
  have S := Lib.hid (S.out.trans (b_.mono S.out.size))
  have O_w := Lib.hid (O_w.out.below b_)
  have O_g := Lib.hid (O_g.out.below b_)
  have O_q := Lib.hid (O_q.out.below b_)
  have X_w := Lib.hid (X_w.out.below b_)
  have X_g := Lib.hid (X_g.out.below b_)
  have X_q := Lib.hid (X_q.out.below b_)
  clear b_
  clear yq_0 yq_1 yq_2
  clear yw_0 yw_1 yw_2
  obtain ⟨yg_0, yg_1, yg_2⟩ := X_g.out.three
  go_wp2_with fail
  refine (HR.out _ _ _ _ O_g.out).mono ?_
  rintro e w15_ ⟨rfl, b_⟩
  have z15_ := b_.size
  try simp only [World.size_alloc] at z15_
  try simp only [World.size_drew] at z15_
  have S := Lib.hid (S.out.trans (b_.mono S.out.size))
  have O_g := Lib.hid (O_g.out.below b_)
  have X_g := Lib.hid (X_g.out.below b_)
  clear b_
  clear yg_0 yg_1 yg_2
  go_wp2
  go_ret
  exact ⟨rfl, (KF.out _ S.out).2.2.2.2.2⟩
end Go.Proofs.Ytigiechidcndpaa
