/- The law FnExactUnwindAll, walked over the contracts of both functions and of those that copy, compare, mark and look (made by gen_law.py). No condition. -/
import Derived.Test.YthijfipjfdmoeaaPk10
import Derived.Test.YthijfipjfdmoeaaCrossL
import Derived.Test.YthijfipjfdmoeaaCrossH
namespace Go.Proofs.Ythijfipjfdmoeaa
open Go.RowKit

set_option maxRecDepth 100000 in
set_option maxHeartbeats 3200000 in
theorem FnExactUnwindAll_walk (x0 : Int) (a1 : Option Addr) (cap1 : Nat) (l1 : List RCross) (w : World) (_ : (Lit.int .i64 x0).wf = true) (w1 : ArgCross w a1 l1) (m1 : l1.length ≤ maxLen) :
    Calls Try.prog 5 #[.int .i64 x0, .slice a1 l1.length cap1] w fun e w' => e = .returned (.bool true) ∧ Below w.heap.size w w' := by
  unfold maxLen at m1
  by_cases hl1 : (l1.length : Int) ≤ 1048576
  rotate_left
  · have Z1 := Lib.hid (fun W => szCrossS_out a1 l1.length cap1 1048576 W (by omega) (by omega) (by omega) (by omega))
    clear w1
    go_enter Try.func5, Try.ntmps5
    go_wp2_with (first | (go_at_call 25; (with_reducible refine (Z1.out _).mono ?_); rintro e w' ⟨rfl, rfl⟩))
    go_ret
    exact ⟨rfl, (Below.refl _ _)⟩
  have Z1 := Lib.hid (fun W => szCrossS_in a1 l1.length cap1 1048576 W (by omega) (by omega) (by omega))
  have T1 := Lib.hid (fun W h => toCrossS_any a1 cap1 l1 W h (by omega))
  have Q1 := Lib.hid (fun v1 v2 b1 b2 W h1 h2 => eqCrossS_same v1 v2 l1 b1 b2 W h1 h2 (by omega))
  have M1 := Lib.hid (fun v b W h => markCrossS_at v l1 b W h (by omega))
  have CS := Lib.hid (fun v1 b1 W h1 => specUnw x0 v1 l1 b1 W h1 (by omega))
  have CI := Lib.hid (fun v1 b1 W h1 => implUnw x0 v1 l1 b1 W h1 (by omega))
  have hzs : (unwindAll x0 l1).1.length ≤ 2000000 := (by have := unwindAll_len x0 l1; omega)
  have KF := Lib.hid (show ∀ W, Below (w).heap.size w W → ArgCross W a1 l1 ∧ Below w.heap.size w W from fun W hb => ⟨w1.below hb, (Below.refl w.heap.size w).trans (hb.mono (by simp <;> omega))⟩)
  have S := Lib.hid (Below.refl (w).heap.size w)
  clear w1
  generalize unwindAll x0 l1 = rr at CS CI hzs
  obtain ⟨r, rb⟩ := rr
  unfold CrossB at CS CI
  dsimp only at CS CI hzs
  go_enter Try.func5, Try.ntmps5
  go_wp2_with (first | (go_at_call 25; (with_reducible refine (Z1.out _).mono ?_); rintro e w' ⟨rfl, rfl⟩))
  go_wp2_with fail
  refine (T1.out _ (KF.out _ S.out).1).mono ?_
  rintro e w1_ ⟨v_s1, rfl, o_, b_⟩
  have z1_ := b_.size
  try simp only [World.size_alloc] at z1_
  try simp only [World.size_drew] at z1_
  have S := Lib.hid (S.out.trans (b_.mono S.out.size))
  have O_s1 := Lib.hid o_
  have L_s1 := fun k hk => o_.lt k hk
  try simp only [World.size_alloc] at L_s1
  try simp only [World.size_drew] at L_s1
  clear o_ b_
  go_wp2_with fail
  refine (CS.out _ _ _ O_s1.out).mono ?_
  rintro e w2_ ⟨v_w, rfl, o_, b_⟩
  have z2_ := b_.size
  try simp only [World.size_alloc] at z2_
  try simp only [World.size_drew] at z2_
  have S := Lib.hid (S.out.trans (b_.mono S.out.size))
  have O_s1 := Lib.hid (O_s1.out.below b_)
  have O_w := Lib.hid o_
  have L_w := fun k hk => o_.lt k hk
  try simp only [World.size_alloc] at L_w
  try simp only [World.size_drew] at L_w
  clear o_ b_
  go_wp2_with fail
  refine (T1.out _ (KF.out _ S.out).1).mono ?_
  rintro e w3_ ⟨v_x1, rfl, o_, b_⟩
  obtain ⟨A_x1, c_x1, rfl⟩ := o_.slice
  have z3_ := b_.size
  try simp only [World.size_alloc] at z3_
  try simp only [World.size_drew] at z3_
  have S := Lib.hid (S.out.trans (b_.mono S.out.size))
  have O_w := Lib.hid (O_w.out.below b_)
  have O_x1 := Lib.hid o_
  have L_x1 := fun k hk => o_.lt k hk
  try simp only [World.size_alloc] at L_x1
  try simp only [World.size_drew] at L_x1
  clear o_ b_
  go_wp2_with fail
  refine (CI.out _ _ _ O_x1.out).mono ?_
  rintro e w4_ ⟨v_g, rfl, o_, b_⟩
  have z4_ := b_.size
  try simp only [World.size_alloc] at z4_
  try simp only [World.size_drew] at z4_
  have S := Lib.hid (S.out.trans (b_.mono S.out.size))
  have O_w := Lib.hid (O_w.out.below b_)
  have O_x1 := Lib.hid (O_x1.out.below b_)
  have O_g := Lib.hid o_
  have L_g := fun k hk => o_.lt k hk
  try simp only [World.size_alloc] at L_g
  try simp only [World.size_drew] at L_g
  clear o_ b_
  go_wp2_with fail
  refine (eqCrossS_same _ _ _ _ _ _ O_g.out O_w.out hzs).mono ?_
  rintro e w5_ ⟨rfl, b_⟩
  have z5_ := b_.size
  try simp only [World.size_alloc] at z5_
  try simp only [World.size_drew] at z5_
  have S := Lib.hid (S.out.trans (b_.mono S.out.size))
  have O_w := Lib.hid (O_w.out.below b_)
  have O_x1 := Lib.hid (O_x1.out.below b_)
  have O_g := Lib.hid (O_g.out.below b_)
  clear b_
  go_wp2_with fail
  refine (T1.out _ (KF.out _ S.out).1).mono ?_
  rintro e w6_ ⟨v_t1, rfl, o_, b_⟩
  have z6_ := b_.size
  try simp only [World.size_alloc] at z6_
  try simp only [World.size_drew] at z6_
  have S := Lib.hid (S.out.trans (b_.mono S.out.size))
  have O_w := Lib.hid (O_w.out.below b_)
  have O_x1 := Lib.hid (O_x1.out.below b_)
  have O_g := Lib.hid (O_g.out.below b_)
  have O_t1 := Lib.hid o_
  have L_t1 := fun k hk => o_.lt k hk
  try simp only [World.size_alloc] at L_t1
  try simp only [World.size_drew] at L_t1
  clear o_ b_
  go_wp2_with fail
  refine (Q1.out _ _ _ _ _ O_x1.out O_t1.out).mono ?_
  rintro e w7_ ⟨rfl, b_⟩
  have z7_ := b_.size
  try simp only [World.size_alloc] at z7_
  try simp only [World.size_drew] at z7_
  have S := Lib.hid (S.out.trans (b_.mono S.out.size))
  have O_w := Lib.hid (O_w.out.below b_)
  have O_x1 := Lib.hid (O_x1.out.below b_)
  have O_g := Lib.hid (O_g.out.below b_)
  have O_t1 := Lib.hid (O_t1.out.below b_)
  clear b_
  go_wp2_with fail
  refine (M1.out _ _ _ O_x1.out (1) _ (by first | omega | (push_cast; omega)) (by omega)).mono ?_
  rintro e w8_ ⟨rfl, -, g_⟩
  have z8_ := g_.size
  try simp only [World.size_alloc] at z8_
  try simp only [World.size_drew] at z8_
  have S := Lib.hid (S.out.grown g_ S.out.size (fun k hk => by have := L_x1 k hk; have := S.out.size; (try simp only [World.size_alloc] at *); omega))
  have O_w := Lib.hid (O_w.out.kept g_ (sep_of (fun k hk e => by have := L_w k hk; have := L_x1 k e; omega)))
  have O_g := Lib.hid (O_g.out.kept g_ (sep_of (fun k hk e => by have := L_g k hk; have := L_x1 k e; omega)))
  clear g_
  go_wp2_with fail
  refine (eqCrossS_same _ _ _ _ _ _ O_g.out O_w.out hzs).mono ?_
  rintro e w9_ ⟨rfl, b_⟩
  have z9_ := b_.size
  try simp only [World.size_alloc] at z9_
  try simp only [World.size_drew] at z9_
  have S := Lib.hid (S.out.trans (b_.mono S.out.size))
  have O_w := Lib.hid (O_w.out.below b_)
  have O_g := Lib.hid (O_g.out.below b_)
  clear b_
  go_wp2_with fail
  refine (markCrossS_at _ _ _ _ O_g.out hzs 1 _ (by rfl) (by omega)).mono ?_
  rintro e w10_ ⟨rfl, o_, g_⟩
  have z10_ := g_.size
  try simp only [World.size_alloc] at z10_
  try simp only [World.size_drew] at z10_
  have S := Lib.hid (S.out.grown g_ S.out.size (fun k hk => by have := L_g k hk; have := S.out.size; (try simp only [World.size_alloc] at *); omega))
  have O_w := Lib.hid (O_w.out.kept g_ (sep_of (fun k hk e => by have := L_w k hk; have := L_g k e; omega)))
  have O_g := Lib.hid o_
  clear o_ g_
  go_wp2_with fail
  refine (heldCrossS_any _ _ _ _ 1 O_g.out hzs (by omega)).mono ?_
  rintro e w11_ ⟨rfl, b_⟩
  have z11_ := b_.size
  try simp only [World.size_alloc] at z11_
  try simp only [World.size_drew] at z11_
  have S := Lib.hid (S.out.trans (b_.mono S.out.size))
  have O_w := Lib.hid (O_w.out.below b_)
  have O_g := Lib.hid (O_g.out.below b_)
  clear b_
  go_wp2_with fail
  refine (T1.out _ (KF.out _ S.out).1).mono ?_
  rintro e w12_ ⟨v_h1, rfl, o_, b_⟩
  have z12_ := b_.size
  try simp only [World.size_alloc] at z12_
  try simp only [World.size_drew] at z12_
  have S := Lib.hid (S.out.trans (b_.mono S.out.size))
  have O_w := Lib.hid (O_w.out.below b_)
  have O_g := Lib.hid (O_g.out.below b_)
  have O_h1 := Lib.hid o_
  have L_h1 := fun k hk => o_.lt k hk
  try simp only [World.size_alloc] at L_h1
  try simp only [World.size_drew] at L_h1
  clear o_ b_
  go_wp2_with fail
  refine (CI.out _ _ _ O_h1.out).mono ?_
  rintro e w13_ ⟨v_q, rfl, o_, b_⟩
  have z13_ := b_.size
  try simp only [World.size_alloc] at z13_
  try simp only [World.size_drew] at z13_
  have S := Lib.hid (S.out.trans (b_.mono S.out.size))
  have O_w := Lib.hid (O_w.out.below b_)
  have O_g := Lib.hid (O_g.out.below b_)
  have O_h1 := Lib.hid (O_h1.out.below b_)
  have O_q := Lib.hid o_
  have L_q := fun k hk => o_.lt k hk
  try simp only [World.size_alloc] at L_q
  try simp only [World.size_drew] at L_q
  clear o_ b_
  go_wp2_with fail
  refine (eqCrossS_same _ _ _ _ _ _ O_q.out O_w.out hzs).mono ?_
  rintro e w14_ ⟨rfl, b_⟩
  have z14_ := b_.size
  try simp only [World.size_alloc] at z14_
  try simp only [World.size_drew] at z14_
  have S := Lib.hid (S.out.trans (b_.mono S.out.size))
  have O_w := Lib.hid (O_w.out.below b_)
  have O_g := Lib.hid (O_g.out.below b_)
  have O_q := Lib.hid (O_q.out.below b_)
  clear b_
  go_wp2_with fail
  refine (heldCrossS_any _ _ _ _ 1 O_g.out hzs (by omega)).mono ?_
  rintro e w15_ ⟨rfl, b_⟩
  have z15_ := b_.size
  try simp only [World.size_alloc] at z15_
  try simp only [World.size_drew] at z15_
  have S := Lib.hid (S.out.trans (b_.mono S.out.size))
  have O_g := Lib.hid (O_g.out.below b_)
  clear b_
  go_wp2
  go_ret
  exact ⟨rfl, (KF.out _ S.out).2⟩
end Go.Proofs.Ythijfipjfdmoeaa
