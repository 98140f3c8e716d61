/- The law FnExactHangPose, walked over the contracts of both functions and of those that copy, compare, mark and look (made by gen_law.py). No condition. -/
import Derived.Test.YtblbmppbbhibeaaSlackS
import Derived.Test.YtblbmppbbhibeaaHangI
import Derived.Test.YtblbmppbbhibeaaArg
import Derived.Test.YtblbmppbbhibeaaArgI
import Derived.Test.YtblbmppbbhibeaaLawK
import Derived.Test.YtblbmppbbhibeaaMarkK
namespace Go.Proofs.Ytblbmppbbhibeaa
set_option linter.unusedVariables false
set_option linter.unusedSimpArgs false
open Go.RowKit

set_option maxRecDepth 100000 in
set_option maxHeartbeats 3200000 in
theorem FnExactHangPose_walk (J0 : Int) (a0 : Option Addr) (cap0 : Nat) (l0 : List Lb) (a1 : Option Addr) (n1 cap1 : Nat) (z1 : List Int) (w : World) (w0 : ArgL w a0 l0) (m0 : l0.length ≤ maxLen) (w1 : IsRow .i64 w a1 n1 cap1 z1) :
    Calls Try.prog 6 #[.agg #[.int .i64 J0, .slice a0 l0.length cap0], .slice a1 n1 cap1] w fun e w' => e = .returned (.bool true) ∧ Below w.heap.size w w' := by
  unfold maxLen at m0
  have mx1 := irow_max w1
  by_cases hn1 : 1048576 < n1
  · have hni1 : (1048576 : Int) < (n1 : Int) := by omega
    clear w0 w1
    go_enter Try.func6, Try.ntmps6
    go_wp2
    go_ret
    exact ⟨rfl, ((Below.refl _ _).alloc (by simp) _)⟩
  have hni1 : ¬ (1048576 : Int) < (n1 : Int) := by omega
  by_cases hl0 : (l0.length : Int) ≤ 1048576
  rotate_left
  · have Z0 := Lib.hid (fun W => szBody_out J0 a0 l0.length cap0 1048576 W (by omega) (by omega) (by omega) (by omega))
    clear w0 w1
    go_enter Try.func6, Try.ntmps6
    go_wp2_with (first | (go_at_call 19; (with_reducible refine (Z0.out _).mono ?_); rintro e w' ⟨rfl, rfl⟩))
    go_ret
    exact ⟨rfl, (((Below.refl _ _).alloc (by simp <;> omega) _).alloc (by simp <;> omega) _)⟩
  have Z0 := Lib.hid (fun W => szBody_in J0 a0 l0.length cap0 1048576 W (by omega) (by omega) (by omega))
  have T0 := Lib.hid (fun W h => toBody_walk J0 a0 cap0 l0 W h (by omega))
  have Q0 := Lib.hid (fun v1 v2 b1 b2 W h1 h2 => eqBody_same J0 v1 v2 l0 b1 b2 W h1 h2 (by omega))
  have M0 := Lib.hid (fun v b W h => markBody_at J0 v l0 b W h (by omega))
  have T1 := Lib.hid (fun W h => toIntS_walk a1 n1 cap1 z1 W h (by omega))
  have hk1 : (z1.take n1).length ≤ 1048576 := by rw [irow_len w1]; omega
  have Q1 := Lib.hid (fun v1 v2 b1 b2 W h1 h2 => eqIntS_same v1 v2 (z1.take n1) b1 b2 W h1 h2 (by omega))
  have M1 := Lib.hid (fun v b W h => markIntS_at v (z1.take n1) b W h (by omega))
  have CS := Lib.hid (fun v0 b0 v1 b1 W h0 h1 => specHang J0 v0 v1 l0 (z1.take n1) b0 b1 W h0 h1 (by omega))
  have CI := Lib.hid (fun v0 b0 v1 b1 W h0 h1 => implHang J0 v0 v1 l0 (z1.take n1) b0 b1 W h0 h1 (by omega) (by omega))
  have hzs : (hangPose J0 l0 (z1.take n1)).length ≤ 2000000 := (by have := hangPose_len J0 l0 (z1.take n1); omega)
  have KF := Lib.hid (show ∀ W, Below (((w.alloc (.cells #[.int .i64 J0, .slice a0 l0.length cap0] 37)).alloc (.cells #[.int .i64 J0, .slice a0 l0.length cap0] 37))).heap.size ((w.alloc (.cells #[.int .i64 J0, .slice a0 l0.length cap0] 37)).alloc (.cells #[.int .i64 J0, .slice a0 l0.length cap0] 37)) W → W.cell? ⟨w.heap.size, 0, none⟩ = some (.int .i64 J0) ∧ W.cell? ⟨w.heap.size, 1, none⟩ = some (.slice a0 l0.length cap0) ∧ ArgL W a0 l0 ∧ IsRow .i64 W a1 n1 cap1 z1 ∧ Below w.heap.size w W from fun W hb => ⟨cell_below (by simp [go_sem]) hb, cell_below (by simp [go_sem]) hb, ((w0.alloc _).alloc _).below hb, irow_below (irow_alloc (irow_alloc w1 _) _) hb, (((Below.refl w.heap.size w).alloc (by simp <;> omega) _).alloc (by simp <;> omega) _).trans (hb.mono (by simp <;> omega))⟩)
  have S := Lib.hid (Below.refl (((w.alloc (.cells #[.int .i64 J0, .slice a0 l0.length cap0] 37)).alloc (.cells #[.int .i64 J0, .slice a0 l0.length cap0] 37))).heap.size ((w.alloc (.cells #[.int .i64 J0, .slice a0 l0.length cap0] 37)).alloc (.cells #[.int .i64 J0, .slice a0 l0.length cap0] 37)))
  unfold bodyV at T0 Q0 M0 CS CI
  clear w0 w1
  generalize hangPose J0 l0 (z1.take n1) = r at CS CI hzs
  generalize z1.take n1 = t1 at T1 Q1 CS CI hk1 M1
  go_enter Try.func6, Try.ntmps6
  go_wp2_with (first | (go_at_call 19; (with_reducible refine (Z0.out _).mono ?_); rintro e w' ⟨rfl, rfl⟩))
  obtain ⟨x0_0, x0_1⟩ := (show _ ∧ _ from ⟨(KF.out _ S.out).1, (KF.out _ S.out).2.1⟩)
  go_wp2_with fail
  refine (T0.out _ (KF.out _ S.out).2.2.1).mono ?_
  rintro e w1_ ⟨v_s0, rfl, o_, b_⟩
  clear x0_0 x0_1
  have z1_ := b_.size
  try simp only [World.size_alloc] at z1_
  try simp only [World.size_drew] at z1_
  have S := Lib.hid (S.out.trans (b_.mono S.out.size))
  have O_s0 := Lib.hid o_
  have L_s0 := fun k hk => o_.lt k hk
  try simp only [World.size_alloc] at L_s0
  try simp only [World.size_drew] at L_s0
  clear o_ b_
  go_wp2_with fail
  refine (T1.out _ (KF.out _ S.out).2.2.2.1).mono ?_
  rintro e w2_ ⟨v_s1, rfl, o_, b_⟩
  have z2_ := b_.size
  try simp only [World.size_alloc] at z2_
  try simp only [World.size_drew] at z2_
  have S := Lib.hid (S.out.trans (b_.mono S.out.size))
  have O_s0 := Lib.hid (O_s0.out.below b_)
  have O_s1 := Lib.hid o_
  have L_s1 := fun k hk => o_.lt k hk
  try simp only [World.size_alloc] at L_s1
  try simp only [World.size_drew] at L_s1
  clear o_ b_
  go_wp2_with fail
  refine (CS.out _ _ _ _ _ O_s0.out O_s1.out).mono ?_
  rintro e w3_ ⟨v_w, rfl, o_, b_⟩
  have z3_ := b_.size
  try simp only [World.size_alloc] at z3_
  try simp only [World.size_drew] at z3_
  have S := Lib.hid (S.out.trans (b_.mono S.out.size))
  have O_s0 := Lib.hid (O_s0.out.below b_)
  have O_s1 := Lib.hid (O_s1.out.below b_)
  have O_w := Lib.hid o_
  have L_w := fun k hk => o_.lt k hk
  try simp only [World.size_alloc] at L_w
  try simp only [World.size_drew] at L_w
  clear o_ b_
  obtain ⟨x0_0, x0_1⟩ := (show _ ∧ _ from ⟨(KF.out _ S.out).1, (KF.out _ S.out).2.1⟩)
  go_wp2_with fail
  refine (T0.out _ (KF.out _ S.out).2.2.1).mono ?_
  rintro e w4_ ⟨v_x0, rfl, o_, b_⟩
  obtain ⟨A_x0, c_x0, rfl⟩ := o_.slice
  clear x0_0 x0_1
  have z4_ := b_.size
  try simp only [World.size_alloc] at z4_
  try simp only [World.size_drew] at z4_
  have S := Lib.hid (S.out.trans (b_.mono S.out.size))
  have O_w := Lib.hid (O_w.out.below b_)
  have O_x0 := Lib.hid o_
  have L_x0 := fun k hk => o_.lt k hk
  try simp only [World.size_alloc] at L_x0
  try simp only [World.size_drew] at L_x0
  clear o_ b_
  have X_0 := Lib.hid (boxAt_any w4_ 26 J0 (.slice A_x0 (l0).length c_x0))
  have S := Lib.hid (S.out.alloc S.out.size (.cells #[.int .i64 J0, .slice A_x0 (l0).length c_x0] 26))
  have O_w := Lib.hid (O_w.out.alloc (.cells #[.int .i64 J0, .slice A_x0 (l0).length c_x0] 26))
  have O_x0 := Lib.hid (O_x0.out.alloc (.cells #[.int .i64 J0, .slice A_x0 (l0).length c_x0] 26))
  have zb0 := World.size_alloc w4_ (.cells #[.int .i64 J0, .slice A_x0 (l0).length c_x0] 26)
  go_wp2_with fail
  refine (T1.out _ (KF.out _ S.out).2.2.2.1).mono ?_
  rintro e w5_ ⟨v_x1, rfl, o_, b_⟩
  obtain ⟨A_x1, c_x1, rfl⟩ := o_.slice
  have z5_ := b_.size
  try simp only [World.size_alloc] at z5_
  try simp only [World.size_drew] at z5_
  have S := Lib.hid (S.out.trans (b_.mono S.out.size))
  have O_w := Lib.hid (O_w.out.below b_)
  have O_x0 := Lib.hid (O_x0.out.below b_)
  have X_0 := Lib.hid (X_0.out.below b_)
  have O_x1 := Lib.hid o_
  have L_x1 := fun k hk => o_.lt k hk
  try simp only [World.size_alloc] at L_x1
  try simp only [World.size_drew] at L_x1
  clear o_ b_
  obtain ⟨y0_0, y0_1⟩ := X_0.out
  go_wp2_with fail
  refine (CI.out _ _ _ _ _ O_x0.out O_x1.out).mono ?_
  rintro e w6_ ⟨v_g, rfl, o_, b_⟩
  have z6_ := b_.size
  try simp only [World.size_alloc] at z6_
  try simp only [World.size_drew] at z6_
  have S := Lib.hid (S.out.trans (b_.mono S.out.size))
  have O_w := Lib.hid (O_w.out.below b_)
  have O_x0 := Lib.hid (O_x0.out.below b_)
  have O_x1 := Lib.hid (O_x1.out.below b_)
  have X_0 := Lib.hid (X_0.out.below b_)
  have O_g := Lib.hid o_
  have L_g := fun k hk => o_.lt k hk
  try simp only [World.size_alloc] at L_g
  try simp only [World.size_drew] at L_g
  clear o_ b_
  clear y0_0 y0_1
  go_wp2_with fail
  refine (eqIntS_same _ _ _ _ _ _ O_g.out O_w.out hzs).mono ?_
  rintro e w7_ ⟨rfl, b_⟩
  have z7_ := b_.size
  try simp only [World.size_alloc] at z7_
  try simp only [World.size_drew] at z7_
  have S := Lib.hid (S.out.trans (b_.mono S.out.size))
  have O_w := Lib.hid (O_w.out.below b_)
  have O_x0 := Lib.hid (O_x0.out.below b_)
  have O_x1 := Lib.hid (O_x1.out.below b_)
  have O_g := Lib.hid (O_g.out.below b_)
  have X_0 := Lib.hid (X_0.out.below b_)
  clear b_
  obtain ⟨x0_0, x0_1⟩ := (show _ ∧ _ from ⟨(KF.out _ S.out).1, (KF.out _ S.out).2.1⟩)
  obtain ⟨y0_0, y0_1⟩ := X_0.out
  go_wp2_with fail
  go_region_held3 (fun w' => w'.cell? ⟨w4_.heap.size, 0, none⟩ = some (.int .i64 J0) ∧ w'.cell? ⟨w4_.heap.size, 1, none⟩ = some (.slice A_x0 (l0).length c_x0) ∧ w'.cell? ⟨w.heap.size, 0, none⟩ = some (.int .i64 J0) ∧ w'.cell? ⟨w.heap.size, 1, none⟩ = some (.slice a0 l0.length cap0))
    (first | exact ⟨y0_0, y0_1, x0_0, x0_1⟩ | exact K1_.out | exact K2_.out)
    (first | (go_at_call 21; (with_reducible refine (T0.out _ ?_).mono ?_); (exact (KF.out _ S.out).2.2.1); rintro e w8_ ⟨v_t, rfl, o_, b1_⟩; replace b1_ := undrew b1_; have S1_ := Lib.hid (S.out.trans (b1_.mono S.out.size)); have P1_w := Lib.hid (O_w.out.below b1_); have P1_x0 := Lib.hid (O_x0.out.below b1_); have P1_x1 := Lib.hid (O_x1.out.below b1_); have P1_g := Lib.hid (O_g.out.below b1_); have X1_0 := Lib.hid (X_0.out.below b1_); have K1_ := Lib.hid (And.intro X1_0.out.1 (And.intro X1_0.out.2 (And.intro (KF.out _ S1_.out).1 (KF.out _ S1_.out).2.1)))) | (go_at_call 23; (with_reducible refine (Q0.out _ _ _ _ _ P1_x0.out o_).mono ?_); rintro e w9_ ⟨rfl, b2_⟩; have S2_ := Lib.hid (S1_.out.trans (b2_.mono S1_.out.size)); have P2_w := Lib.hid (P1_w.out.below b2_); have P2_x0 := Lib.hid (P1_x0.out.below b2_); have P2_x1 := Lib.hid (P1_x1.out.below b2_); have P2_g := Lib.hid (P1_g.out.below b2_); have X2_0 := Lib.hid (X1_0.out.below b2_); have K2_ := Lib.hid (And.intro X2_0.out.1 (And.intro X2_0.out.2 (And.intro (KF.out _ S2_.out).1 (KF.out _ S2_.out).2.1)))))
  have S := S2_
  have O_w := P2_w
  have O_x0 := P2_x0
  have O_x1 := P2_x1
  have O_g := P2_g
  have X_0 := X2_0
  have z8_ := b1_.size
  have z9_ := b2_.size
  try simp only [World.size_alloc] at z8_ z9_
  try simp only [World.size_drew] at z8_ z9_
  clear o_ b1_ b2_ S1_ S2_ K1_ K2_ P1_w P2_w P1_x0 P2_x0 P1_x1 P2_x1 P1_g P2_g X1_0 X2_0
  clear x0_0 x0_1
  clear y0_0 y0_1
  go_wp2_with fail
  refine (T1.out _ (KF.out _ S.out).2.2.2.1).mono ?_
  rintro e w10_ ⟨v_t1, rfl, o_, b_⟩
  have z10_ := b_.size
  try simp only [World.size_alloc] at z10_
  try simp only [World.size_drew] at z10_
  have S := Lib.hid (S.out.trans (b_.mono S.out.size))
  have O_w := Lib.hid (O_w.out.below b_)
  have O_x0 := Lib.hid (O_x0.out.below b_)
  have O_x1 := Lib.hid (O_x1.out.below b_)
  have O_g := Lib.hid (O_g.out.below b_)
  have X_0 := Lib.hid (X_0.out.below b_)
  have O_t1 := Lib.hid o_
  have L_t1 := fun k hk => o_.lt k hk
  try simp only [World.size_alloc] at L_t1
  try simp only [World.size_drew] at L_t1
  clear o_ b_
  go_wp2_with fail
  refine (Q1.out _ _ _ _ _ O_x1.out O_t1.out).mono ?_
  rintro e w11_ ⟨rfl, b_⟩
  have z11_ := b_.size
  try simp only [World.size_alloc] at z11_
  try simp only [World.size_drew] at z11_
  have S := Lib.hid (S.out.trans (b_.mono S.out.size))
  have O_w := Lib.hid (O_w.out.below b_)
  have O_x0 := Lib.hid (O_x0.out.below b_)
  have O_x1 := Lib.hid (O_x1.out.below b_)
  have O_g := Lib.hid (O_g.out.below b_)
  have O_t1 := Lib.hid (O_t1.out.below b_)
  have X_0 := Lib.hid (X_0.out.below b_)
  clear b_
  obtain ⟨y0_0, y0_1⟩ := X_0.out
  go_wp2_with fail
  refine (M0.out _ _ _ O_x0.out (1) _ (by first | omega | (push_cast; omega)) (by omega)).mono ?_
  rintro e w12_ ⟨rfl, -, g_⟩
  have z12_ := g_.size
  try simp only [World.size_alloc] at z12_
  try simp only [World.size_drew] at z12_
  have S := Lib.hid (S.out.grown g_ S.out.size (fun k hk => by have := L_x0 k hk; have := S.out.size; simp only [World.size_alloc] at *; omega))
  have O_w := Lib.hid (O_w.out.kept g_ (sep_of (fun k hk e => by have := L_w k hk; have := L_x0 k e; omega)))
  have O_x1 := Lib.hid (O_x1.out.kept g_ (sep_of (fun k hk e => by have := L_x1 k hk; have := L_x0 k e; omega)))
  have O_g := Lib.hid (O_g.out.kept g_ (sep_of (fun k hk e => by have := L_g k hk; have := L_x0 k e; omega)))
  have X_0 := Lib.hid (X_0.out.grown g_ (fun e => by have := L_x0 _ e.symm; omega))
  clear y0_0 y0_1
  clear g_
  go_wp2_with fail
  refine (M1.out _ _ _ O_x1.out (1 + 3 * l0.length) _ (by first | omega | (push_cast; omega)) (by omega)).mono ?_
  rintro e w13_ ⟨rfl, -, g_⟩
  have z13_ := g_.size
  try simp only [World.size_alloc] at z13_
  try simp only [World.size_drew] at z13_
  have S := Lib.hid (S.out.grown g_ S.out.size (fun k hk => by have := L_x1 k hk; have := S.out.size; simp only [World.size_alloc] at *; omega))
  have O_w := Lib.hid (O_w.out.kept g_ (sep_of (fun k hk e => by have := L_w k hk; have := L_x1 k e; omega)))
  have O_g := Lib.hid (O_g.out.kept g_ (sep_of (fun k hk e => by have := L_g k hk; have := L_x1 k e; omega)))
  clear g_
  go_wp2_with fail
  refine (eqIntS_same _ _ _ _ _ _ O_g.out O_w.out hzs).mono ?_
  rintro e w14_ ⟨rfl, b_⟩
  have z14_ := b_.size
  try simp only [World.size_alloc] at z14_
  try simp only [World.size_drew] at z14_
  have S := Lib.hid (S.out.trans (b_.mono S.out.size))
  have O_w := Lib.hid (O_w.out.below b_)
  have O_g := Lib.hid (O_g.out.below b_)
  clear b_
  go_wp2_with fail
  refine (markIntS_any _ _ _ _ O_g.out hzs 1 (by omega)).mono ?_
  rintro e w15_ ⟨rfl, o_, g_⟩
  have z15_ := g_.size
  try simp only [World.size_alloc] at z15_
  try simp only [World.size_drew] at z15_
  have S := Lib.hid (S.out.grown g_ S.out.size (fun k hk => by have := L_g k hk; have := S.out.size; simp only [World.size_alloc] at *; omega))
  have O_w := Lib.hid (O_w.out.kept g_ (sep_of (fun k hk e => by have := L_w k hk; have := L_g k e; omega)))
  have O_g := Lib.hid o_
  clear o_ g_
  go_wp2_with fail
  refine (heldIntS_any _ _ _ _ 1 O_g.out hzs (by omega)).mono ?_
  rintro e w16_ ⟨rfl, b_⟩
  have z16_ := b_.size
  try simp only [World.size_alloc] at z16_
  try simp only [World.size_drew] at z16_
  have S := Lib.hid (S.out.trans (b_.mono S.out.size))
  have O_w := Lib.hid (O_w.out.below b_)
  have O_g := Lib.hid (O_g.out.below b_)
  clear b_
  obtain ⟨x0_0, x0_1⟩ := (show _ ∧ _ from ⟨(KF.out _ S.out).1, (KF.out _ S.out).2.1⟩)
  go_wp2_with fail
  refine (T0.out _ (KF.out _ S.out).2.2.1).mono ?_
  rintro e w17_ ⟨v_h0, rfl, o_, b_⟩
  clear x0_0 x0_1
  have z17_ := b_.size
  try simp only [World.size_alloc] at z17_
  try simp only [World.size_drew] at z17_
  have S := Lib.hid (S.out.trans (b_.mono S.out.size))
  have O_w := Lib.hid (O_w.out.below b_)
  have O_g := Lib.hid (O_g.out.below b_)
  have O_h0 := Lib.hid o_
  have L_h0 := fun k hk => o_.lt k hk
  try simp only [World.size_alloc] at L_h0
  try simp only [World.size_drew] at L_h0
  clear o_ b_
  go_wp2_with fail
  refine (T1.out _ (KF.out _ S.out).2.2.2.1).mono ?_
  rintro e w18_ ⟨v_h1, rfl, o_, b_⟩
  have z18_ := b_.size
  try simp only [World.size_alloc] at z18_
  try simp only [World.size_drew] at z18_
  have S := Lib.hid (S.out.trans (b_.mono S.out.size))
  have O_w := Lib.hid (O_w.out.below b_)
  have O_g := Lib.hid (O_g.out.below b_)
  have O_h0 := Lib.hid (O_h0.out.below b_)
  have O_h1 := Lib.hid o_
  have L_h1 := fun k hk => o_.lt k hk
  try simp only [World.size_alloc] at L_h1
  try simp only [World.size_drew] at L_h1
  clear o_ b_
  go_wp2_with fail
  refine (CI.out _ _ _ _ _ O_h0.out O_h1.out).mono ?_
  rintro e w19_ ⟨v_q, rfl, o_, b_⟩
  have z19_ := b_.size
  try simp only [World.size_alloc] at z19_
  try simp only [World.size_drew] at z19_
  have S := Lib.hid (S.out.trans (b_.mono S.out.size))
  have O_w := Lib.hid (O_w.out.below b_)
  have O_g := Lib.hid (O_g.out.below b_)
  have O_h0 := Lib.hid (O_h0.out.below b_)
  have O_h1 := Lib.hid (O_h1.out.below b_)
  have O_q := Lib.hid o_
  have L_q := fun k hk => o_.lt k hk
  try simp only [World.size_alloc] at L_q
  try simp only [World.size_drew] at L_q
  clear o_ b_
  go_wp2_with fail
  refine (eqIntS_same _ _ _ _ _ _ O_q.out O_w.out hzs).mono ?_
  rintro e w20_ ⟨rfl, b_⟩
  have z20_ := b_.size
  try simp only [World.size_alloc] at z20_
  try simp only [World.size_drew] at z20_
  have S := Lib.hid (S.out.trans (b_.mono S.out.size))
  have O_w := Lib.hid (O_w.out.below b_)
  have O_g := Lib.hid (O_g.out.below b_)
  have O_q := Lib.hid (O_q.out.below b_)
  clear b_
  go_wp2_with fail
  refine (heldIntS_any _ _ _ _ 1 O_g.out hzs (by omega)).mono ?_
  rintro e w21_ ⟨rfl, b_⟩
  have z21_ := b_.size
  try simp only [World.size_alloc] at z21_
  try simp only [World.size_drew] at z21_
  have S := Lib.hid (S.out.trans (b_.mono S.out.size))
  have O_g := Lib.hid (O_g.out.below b_)
  clear b_
  go_wp2
  go_ret
  exact ⟨rfl, (KF.out _ S.out).2.2.2.2⟩
end Go.Proofs.Ytblbmppbbhibeaa
