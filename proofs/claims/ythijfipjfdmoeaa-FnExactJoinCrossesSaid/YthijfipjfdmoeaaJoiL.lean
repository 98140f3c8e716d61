/- The law FnExactJoinCrosses, walked over the contracts of both functions and of those that copy, compare, mark and look (made by gen_law.py). No condition. -/
import Derived.Test.YthijfipjfdmoeaaUnwS
import Derived.Test.YthijfipjfdmoeaaFulI
import Derived.Test.YthijfipjfdmoeaaCrossL
import Derived.Test.YthijfipjfdmoeaaCrossH
namespace Go.Proofs.Ythijfipjfdmoeaa
open Go.RowKit

set_option maxRecDepth 100000 in
set_option maxHeartbeats 3200000 in
theorem FnExactJoinCrosses_walk (a0 : Option Addr) (cap0 : Nat) (l0 : List RCross) (a1 : Option Addr) (cap1 : Nat) (l1 : List RCross) (w : World) (w0 : ArgCross w a0 l0) (m0 : l0.length ≤ maxLen) (w1 : ArgCross w a1 l1) (m1 : l1.length ≤ maxLen) :
    Calls Try.prog 7 #[.slice a0 l0.length cap0, .slice a1 l1.length cap1] w fun e w' => e = .returned (.bool true) ∧ Below w.heap.size w w' := by
  unfold maxLen at m0
  unfold maxLen at m1
  by_cases hl0 : (l0.length : Int) ≤ 1048576
  rotate_left
  · have Z0 := Lib.hid (fun W => szCrossS_out a0 l0.length cap0 1048576 W (by omega) (by omega) (by omega) (by omega))
    clear w0 w1
    go_enter Try.func7, Try.ntmps7
    go_wp2_with (first | (go_at_call 25; (with_reducible refine (Z0.out _).mono ?_); rintro e w' ⟨rfl, rfl⟩))
    go_ret
    exact ⟨rfl, (Below.refl _ _)⟩
  have Z0 := Lib.hid (fun W => szCrossS_in a0 l0.length cap0 1048576 W (by omega) (by omega) (by omega))
  by_cases hl1 : (l1.length : Int) ≤ (1048576 - (l0.length : Int))
  rotate_left
  · have Z1 := Lib.hid (fun W => szCrossS_out a1 l1.length cap1 (1048576 - (l0.length : Int)) W (by omega) (by omega) (by omega) (by omega))
    clear w0 w1
    go_enter Try.func7, Try.ntmps7
    go_wp2_with (first | (go_at_call 25; (with_reducible refine (Z0.out _).mono ?_); rintro e w' ⟨rfl, rfl⟩) | (go_at_call 25; (with_reducible refine (Z1.out _).mono ?_); rintro e w' ⟨rfl, rfl⟩))
    go_ret
    exact ⟨rfl, (Below.refl _ _)⟩
  have Z1 := Lib.hid (fun W => szCrossS_in a1 l1.length cap1 (1048576 - (l0.length : Int)) W (by omega) (by omega) (by omega))
  have T0 := Lib.hid (fun W h => toCrossS_any a0 cap0 l0 W h (by omega))
  have Q0 := Lib.hid (fun v1 v2 b1 b2 W h1 h2 => eqCrossS_same v1 v2 l0 b1 b2 W h1 h2 (by omega))
  have M0 := Lib.hid (fun v b W h => markCrossS_at v l0 b W h (by omega))
  have T1 := Lib.hid (fun W h => toCrossS_any a1 cap1 l1 W h (by omega))
  have Q1 := Lib.hid (fun v1 v2 b1 b2 W h1 h2 => eqCrossS_same v1 v2 l1 b1 b2 W h1 h2 (by omega))
  have M1 := Lib.hid (fun v b W h => markCrossS_at v l1 b W h (by omega))
  have CS := Lib.hid (fun v0 b0 v1 b1 W h0 h1 => specJoin v0 v1 l0 l1 b0 b1 W h0 h1 (by omega) (by omega))
  have CI := Lib.hid (fun v0 b0 v1 b1 W h0 h1 => implJoin v0 v1 l0 l1 b0 b1 W h0 h1 (by omega) (by omega))
  have hzs : ((l0 ++ l1)).length ≤ 2000000 := (by rw [List.length_append]; omega)
  have KF := Lib.hid (show ∀ W, Below (w).heap.size w W → ArgCross W a0 l0 ∧ ArgCross W a1 l1 ∧ Below w.heap.size w W from fun W hb => ⟨w0.below hb, w1.below hb, (Below.refl w.heap.size w).trans (hb.mono (by simp <;> omega))⟩)
  have S := Lib.hid (Below.refl (w).heap.size w)
  clear w0 w1
  generalize (l0 ++ l1) = r at CS CI hzs
  go_enter Try.func7, Try.ntmps7
  go_wp2_with (first | (go_at_call 25; (with_reducible refine (Z0.out _).mono ?_); rintro e w' ⟨rfl, rfl⟩) | (go_at_call 25; (with_reducible refine (Z1.out _).mono ?_); rintro e w' ⟨rfl, rfl⟩))
  go_wp2_with fail
  refine (T0.out _ (KF.out _ S.out).1).mono ?_
  rintro e w1_ ⟨v_s0, rfl, o_, b_⟩
  have z1_ := b_.size
  try simp only [World.size_alloc] at z1_
  try simp only [World.size_drew] at z1_
  have S := Lib.hid (S.out.trans (b_.mono S.out.size))
  have O_s0 := Lib.hid o_
  have L_s0 := fun k hk => o_.lt k hk
  try simp only [World.size_alloc] at L_s0
  try simp only [World.size_drew] at L_s0
  clear o_ b_
  go_wp2_with fail
  refine (T1.out _ (KF.out _ S.out).2.1).mono ?_
  rintro e w2_ ⟨v_s1, rfl, o_, b_⟩
  have z2_ := b_.size
  try simp only [World.size_alloc] at z2_
  try simp only [World.size_drew] at z2_
  have S := Lib.hid (S.out.trans (b_.mono S.out.size))
  have O_s0 := Lib.hid (O_s0.out.below b_)
  have O_s1 := Lib.hid o_
  have L_s1 := fun k hk => o_.lt k hk
  try simp only [World.size_alloc] at L_s1
  try simp only [World.size_drew] at L_s1
  clear o_ b_
  go_wp2_with fail
  refine (CS.out _ _ _ _ _ O_s0.out O_s1.out).mono ?_
  rintro e w3_ ⟨v_w, rfl, o_, b_⟩
  have z3_ := b_.size
  try simp only [World.size_alloc] at z3_
  try simp only [World.size_drew] at z3_
  have S := Lib.hid (S.out.trans (b_.mono S.out.size))
  have O_s0 := Lib.hid (O_s0.out.below b_)
  have O_s1 := Lib.hid (O_s1.out.below b_)
  have O_w := Lib.hid o_
  have L_w := fun k hk => o_.lt k hk
  try simp only [World.size_alloc] at L_w
  try simp only [World.size_drew] at L_w
  clear o_ b_
  go_wp2_with fail
  refine (T0.out _ (KF.out _ S.out).1).mono ?_
  rintro e w4_ ⟨v_x0, rfl, o_, b_⟩
  obtain ⟨A_x0, c_x0, rfl⟩ := o_.slice
  have z4_ := b_.size
  try simp only [World.size_alloc] at z4_
  try simp only [World.size_drew] at z4_
  have S := Lib.hid (S.out.trans (b_.mono S.out.size))
  have O_w := Lib.hid (O_w.out.below b_)
  have O_x0 := Lib.hid o_
  have L_x0 := fun k hk => o_.lt k hk
  try simp only [World.size_alloc] at L_x0
  try simp only [World.size_drew] at L_x0
  clear o_ b_
  go_wp2_with fail
  refine (T1.out _ (KF.out _ S.out).2.1).mono ?_
  rintro e w5_ ⟨v_x1, rfl, o_, b_⟩
  obtain ⟨A_x1, c_x1, rfl⟩ := o_.slice
  have z5_ := b_.size
  try simp only [World.size_alloc] at z5_
  try simp only [World.size_drew] at z5_
  have S := Lib.hid (S.out.trans (b_.mono S.out.size))
  have O_w := Lib.hid (O_w.out.below b_)
  have O_x0 := Lib.hid (O_x0.out.below b_)
  have O_x1 := Lib.hid o_
  have L_x1 := fun k hk => o_.lt k hk
  try simp only [World.size_alloc] at L_x1
  try simp only [World.size_drew] at L_x1
  clear o_ b_
  go_wp2_with fail
  refine (CI.out _ _ _ _ _ O_x0.out O_x1.out).mono ?_
  rintro e w6_ ⟨v_g, rfl, o_, b_⟩
  have z6_ := b_.size
  try simp only [World.size_alloc] at z6_
  try simp only [World.size_drew] at z6_
  have S := Lib.hid (S.out.trans (b_.mono S.out.size))
  have O_w := Lib.hid (O_w.out.below b_)
  have O_x0 := Lib.hid (O_x0.out.below b_)
  have O_x1 := Lib.hid (O_x1.out.below b_)
  have O_g := Lib.hid o_
  have L_g := fun k hk => o_.lt k hk
  try simp only [World.size_alloc] at L_g
  try simp only [World.size_drew] at L_g
  clear o_ b_
  go_wp2_with fail
  refine (eqCrossS_same _ _ _ _ _ _ O_g.out O_w.out hzs).mono ?_
  rintro e w7_ ⟨rfl, b_⟩
  have z7_ := b_.size
  try simp only [World.size_alloc] at z7_
  try simp only [World.size_drew] at z7_
  have S := Lib.hid (S.out.trans (b_.mono S.out.size))
  have O_w := Lib.hid (O_w.out.below b_)
  have O_x0 := Lib.hid (O_x0.out.below b_)
  have O_x1 := Lib.hid (O_x1.out.below b_)
  have O_g := Lib.hid (O_g.out.below b_)
  clear b_
  go_wp2_with fail
  refine (T0.out _ (KF.out _ S.out).1).mono ?_
  rintro e w8_ ⟨v_t0, rfl, o_, b_⟩
  have z8_ := b_.size
  try simp only [World.size_alloc] at z8_
  try simp only [World.size_drew] at z8_
  have S := Lib.hid (S.out.trans (b_.mono S.out.size))
  have O_w := Lib.hid (O_w.out.below b_)
  have O_x0 := Lib.hid (O_x0.out.below b_)
  have O_x1 := Lib.hid (O_x1.out.below b_)
  have O_g := Lib.hid (O_g.out.below b_)
  have O_t0 := Lib.hid o_
  have L_t0 := fun k hk => o_.lt k hk
  try simp only [World.size_alloc] at L_t0
  try simp only [World.size_drew] at L_t0
  clear o_ b_
  go_wp2_with fail
  refine (Q0.out _ _ _ _ _ O_x0.out O_t0.out).mono ?_
  rintro e w9_ ⟨rfl, b_⟩
  have z9_ := b_.size
  try simp only [World.size_alloc] at z9_
  try simp only [World.size_drew] at z9_
  have S := Lib.hid (S.out.trans (b_.mono S.out.size))
  have O_w := Lib.hid (O_w.out.below b_)
  have O_x0 := Lib.hid (O_x0.out.below b_)
  have O_x1 := Lib.hid (O_x1.out.below b_)
  have O_g := Lib.hid (O_g.out.below b_)
  have O_t0 := Lib.hid (O_t0.out.below b_)
  clear b_
  go_wp2_with fail
  refine (T1.out _ (KF.out _ S.out).2.1).mono ?_
  rintro e w10_ ⟨v_t1, rfl, o_, b_⟩
  have z10_ := b_.size
  try simp only [World.size_alloc] at z10_
  try simp only [World.size_drew] at z10_
  have S := Lib.hid (S.out.trans (b_.mono S.out.size))
  have O_w := Lib.hid (O_w.out.below b_)
  have O_x0 := Lib.hid (O_x0.out.below b_)
  have O_x1 := Lib.hid (O_x1.out.below b_)
  have O_g := Lib.hid (O_g.out.below b_)
  have O_t1 := Lib.hid o_
  have L_t1 := fun k hk => o_.lt k hk
  try simp only [World.size_alloc] at L_t1
  try simp only [World.size_drew] at L_t1
  clear o_ b_
  go_wp2_with fail
  refine (Q1.out _ _ _ _ _ O_x1.out O_t1.out).mono ?_
  rintro e w11_ ⟨rfl, b_⟩
  have z11_ := b_.size
  try simp only [World.size_alloc] at z11_
  try simp only [World.size_drew] at z11_
  have S := Lib.hid (S.out.trans (b_.mono S.out.size))
  have O_w := Lib.hid (O_w.out.below b_)
  have O_x0 := Lib.hid (O_x0.out.below b_)
  have O_x1 := Lib.hid (O_x1.out.below b_)
  have O_g := Lib.hid (O_g.out.below b_)
  have O_t1 := Lib.hid (O_t1.out.below b_)
  clear b_
  go_wp2_with fail
  refine (M0.out _ _ _ O_x0.out (1) _ (by first | omega | (push_cast; omega)) (by omega)).mono ?_
  rintro e w12_ ⟨rfl, -, g_⟩
  have z12_ := g_.size
  try simp only [World.size_alloc] at z12_
  try simp only [World.size_drew] at z12_
  have S := Lib.hid (S.out.grown g_ S.out.size (fun k hk => by have := L_x0 k hk; have := S.out.size; (try simp only [World.size_alloc] at *); omega))
  have O_w := Lib.hid (O_w.out.kept g_ (sep_of (fun k hk e => by have := L_w k hk; have := L_x0 k e; omega)))
  have O_x1 := Lib.hid (O_x1.out.kept g_ (sep_of (fun k hk e => by have := L_x1 k hk; have := L_x0 k e; omega)))
  have O_g := Lib.hid (O_g.out.kept g_ (sep_of (fun k hk e => by have := L_g k hk; have := L_x0 k e; omega)))
  clear g_
  go_wp2_with fail
  refine (M1.out _ _ _ O_x1.out (1 + 2 * l0.length) _ (by first | omega | (push_cast; omega)) (by omega)).mono ?_
  rintro e w13_ ⟨rfl, -, g_⟩
  have z13_ := g_.size
  try simp only [World.size_alloc] at z13_
  try simp only [World.size_drew] at z13_
  have S := Lib.hid (S.out.grown g_ S.out.size (fun k hk => by have := L_x1 k hk; have := S.out.size; (try simp only [World.size_alloc] at *); omega))
  have O_w := Lib.hid (O_w.out.kept g_ (sep_of (fun k hk e => by have := L_w k hk; have := L_x1 k e; omega)))
  have O_g := Lib.hid (O_g.out.kept g_ (sep_of (fun k hk e => by have := L_g k hk; have := L_x1 k e; omega)))
  clear g_
  go_wp2_with fail
  refine (eqCrossS_same _ _ _ _ _ _ O_g.out O_w.out hzs).mono ?_
  rintro e w14_ ⟨rfl, b_⟩
  have z14_ := b_.size
  try simp only [World.size_alloc] at z14_
  try simp only [World.size_drew] at z14_
  have S := Lib.hid (S.out.trans (b_.mono S.out.size))
  have O_w := Lib.hid (O_w.out.below b_)
  have O_g := Lib.hid (O_g.out.below b_)
  clear b_
  go_wp2_with fail
  refine (markCrossS_at _ _ _ _ O_g.out hzs 1 _ (by rfl) (by omega)).mono ?_
  rintro e w15_ ⟨rfl, o_, g_⟩
  have z15_ := g_.size
  try simp only [World.size_alloc] at z15_
  try simp only [World.size_drew] at z15_
  have S := Lib.hid (S.out.grown g_ S.out.size (fun k hk => by have := L_g k hk; have := S.out.size; (try simp only [World.size_alloc] at *); omega))
  have O_w := Lib.hid (O_w.out.kept g_ (sep_of (fun k hk e => by have := L_w k hk; have := L_g k e; omega)))
  have O_g := Lib.hid o_
  clear o_ g_
  go_wp2_with fail
  refine (heldCrossS_any _ _ _ _ 1 O_g.out hzs (by omega)).mono ?_
  rintro e w16_ ⟨rfl, b_⟩
  have z16_ := b_.size
  try simp only [World.size_alloc] at z16_
  try simp only [World.size_drew] at z16_
  have S := Lib.hid (S.out.trans (b_.mono S.out.size))
  have O_w := Lib.hid (O_w.out.below b_)
  have O_g := Lib.hid (O_g.out.below b_)
  clear b_
  go_wp2_with fail
  refine (T0.out _ (KF.out _ S.out).1).mono ?_
  rintro e w17_ ⟨v_h0, rfl, o_, b_⟩
  have z17_ := b_.size
  try simp only [World.size_alloc] at z17_
  try simp only [World.size_drew] at z17_
  have S := Lib.hid (S.out.trans (b_.mono S.out.size))
  have O_w := Lib.hid (O_w.out.below b_)
  have O_g := Lib.hid (O_g.out.below b_)
  have O_h0 := Lib.hid o_
  have L_h0 := fun k hk => o_.lt k hk
  try simp only [World.size_alloc] at L_h0
  try simp only [World.size_drew] at L_h0
  clear o_ b_
  go_wp2_with fail
  refine (T1.out _ (KF.out _ S.out).2.1).mono ?_
  rintro e w18_ ⟨v_h1, rfl, o_, b_⟩
  have z18_ := b_.size
  try simp only [World.size_alloc] at z18_
  try simp only [World.size_drew] at z18_
  have S := Lib.hid (S.out.trans (b_.mono S.out.size))
  have O_w := Lib.hid (O_w.out.below b_)
  have O_g := Lib.hid (O_g.out.below b_)
  have O_h0 := Lib.hid (O_h0.out.below b_)
  have O_h1 := Lib.hid o_
  have L_h1 := fun k hk => o_.lt k hk
  try simp only [World.size_alloc] at L_h1
  try simp only [World.size_drew] at L_h1
  clear o_ b_
  go_wp2_with fail
  refine (CI.out _ _ _ _ _ O_h0.out O_h1.out).mono ?_
  rintro e w19_ ⟨v_q, rfl, o_, b_⟩
  have z19_ := b_.size
  try simp only [World.size_alloc] at z19_
  try simp only [World.size_drew] at z19_
  have S := Lib.hid (S.out.trans (b_.mono S.out.size))
  have O_w := Lib.hid (O_w.out.below b_)
  have O_g := Lib.hid (O_g.out.below b_)
  have O_h0 := Lib.hid (O_h0.out.below b_)
  have O_h1 := Lib.hid (O_h1.out.below b_)
  have O_q := Lib.hid o_
  have L_q := fun k hk => o_.lt k hk
  try simp only [World.size_alloc] at L_q
  try simp only [World.size_drew] at L_q
  clear o_ b_
  go_wp2_with fail
  refine (eqCrossS_same _ _ _ _ _ _ O_q.out O_w.out hzs).mono ?_
  rintro e w20_ ⟨rfl, b_⟩
  have z20_ := b_.size
  try simp only [World.size_alloc] at z20_
  try simp only [World.size_drew] at z20_
  have S := Lib.hid (S.out.trans (b_.mono S.out.size))
  have O_w := Lib.hid (O_w.out.below b_)
  have O_g := Lib.hid (O_g.out.below b_)
  have O_q := Lib.hid (O_q.out.below b_)
  clear b_
  go_wp2_with fail
  refine (heldCrossS_any _ _ _ _ 1 O_g.out hzs (by omega)).mono ?_
  rintro e w21_ ⟨rfl, b_⟩
  have z21_ := b_.size
  try simp only [World.size_alloc] at z21_
  try simp only [World.size_drew] at z21_
  have S := Lib.hid (S.out.trans (b_.mono S.out.size))
  have O_g := Lib.hid (O_g.out.below b_)
  clear b_
  go_wp2
  go_ret
  exact ⟨rfl, (KF.out _ S.out).2.2⟩
end Go.Proofs.Ythijfipjfdmoeaa
