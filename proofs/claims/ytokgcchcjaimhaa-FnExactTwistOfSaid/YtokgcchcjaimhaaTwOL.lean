/- The law FnExactTwistOf, walked over the contracts of both functions and of those that copy, compare, mark and look (made by gen_law.py). No condition. -/
import Derived.Test.YtokgcchcjaimhaaTwOS
import Derived.Test.YtokgcchcjaimhaaTwsI
import Derived.Test.YtokgcchcjaimhaaTwdM
import Derived.Test.YtokgcchcjaimhaaCrossL
namespace Go.Proofs.Ytokgcchcjaimhaa
open Go.RowKit

set_option maxRecDepth 100000 in
set_option maxHeartbeats 3200000 in
theorem FnExactTwistOf_walk (x0 : Int) (a1 : Option Addr) (cap1 : Nat) (l1 : List RCross) (x2 : Int) (x3 : Int) (w : World) (_ : (Lit.int .i64 x0).wf = true) (w1 : ArgCross w a1 l1) (m1 : l1.length ≤ maxLen) (_ : (Lit.int .i64 x2).wf = true) (_ : (Lit.int .i64 x3).wf = true) :
    Calls Try.prog 4 #[.int .i64 x0, .slice a1 l1.length cap1, .int .i64 x2, .int .i64 x3] w fun e w' => e = .returned (.bool true) ∧ Below w.heap.size w w' := by
  unfold maxLen at m1
  by_cases hl1 : (l1.length : Int) ≤ 1048576
  rotate_left
  · have Z1 := Lib.hid (fun W => szCrossS_out a1 l1.length cap1 1048576 W (by omega) (by omega) (by omega) (by omega))
    clear w1
    go_enter Try.func4, Try.ntmps4
    go_wp2_with (first | (go_at_call 24; (with_reducible refine (Z1.out _).mono ?_); rintro e w' ⟨rfl, rfl⟩))
    go_ret
    exact ⟨rfl, (Below.refl _ _)⟩
  have Z1 := Lib.hid (fun W => szCrossS_in a1 l1.length cap1 1048576 W (by omega) (by omega) (by omega))
  have T1 := Lib.hid (fun W h => toCrossS_any a1 cap1 l1 W h (by omega))
  have Q1 := Lib.hid (fun v1 v2 b1 b2 W h1 h2 => eqCrossS_same v1 v2 l1 b1 b2 W h1 h2 (by omega))
  have CS := Lib.hid (fun v1 b1 W h1 => specTwO x0 v1 l1 b1 W h1 (by omega) x2 x3)
  have CI := Lib.hid (fun v1 b1 W h1 => implTwO x0 v1 l1 b1 W h1 (by omega) x2 x3)
  have KF := Lib.hid (show ∀ W, Below (w).heap.size w W → ArgCross W a1 l1 ∧ Below w.heap.size w W from fun W hb => ⟨w1.below hb, (Below.refl w.heap.size w).trans (hb.mono (by simp <;> omega))⟩)
  have S := Lib.hid (Below.refl (w).heap.size w)
  clear w1
  generalize twistOf x0 l1 x2 x3 = r at CS CI
  go_enter Try.func4, Try.ntmps4
  go_wp2_with (first | (go_at_call 24; (with_reducible refine (Z1.out _).mono ?_); rintro e w' ⟨rfl, rfl⟩))
  go_wp2_with fail
  refine (T1.out _ (KF.out _ S.out).1).mono ?_
  rintro e w1_ ⟨v_s1, rfl, o_, b_⟩
  have z1_ := b_.size
  try simp only [World.size_alloc] at z1_
  try simp only [World.size_drew] at z1_
  have S := Lib.hid (S.out.trans (b_.mono S.out.size))
  have O_s1 := Lib.hid o_
  have L_s1 := fun k hk => o_.lt k hk
  try simp only [World.size_alloc] at L_s1
  try simp only [World.size_drew] at L_s1
  clear o_ b_
  go_wp2_with fail
  refine (CS.out _ _ _ O_s1.out).mono ?_
  rintro e w2_ ⟨rfl, b_⟩
  have z2_ := b_.size
  try simp only [World.size_alloc] at z2_
  try simp only [World.size_drew] at z2_
  have S := Lib.hid (S.out.trans (b_.mono S.out.size))
  have O_s1 := Lib.hid (O_s1.out.below b_)
  clear b_
  go_wp2_with fail
  refine (T1.out _ (KF.out _ S.out).1).mono ?_
  rintro e w3_ ⟨v_x1, rfl, o_, b_⟩
  obtain ⟨A_x1, c_x1, rfl⟩ := o_.slice
  have z3_ := b_.size
  try simp only [World.size_alloc] at z3_
  try simp only [World.size_drew] at z3_
  have S := Lib.hid (S.out.trans (b_.mono S.out.size))
  have O_x1 := Lib.hid o_
  have L_x1 := fun k hk => o_.lt k hk
  try simp only [World.size_alloc] at L_x1
  try simp only [World.size_drew] at L_x1
  clear o_ b_
  go_wp2_with fail
  refine (CI.out _ _ _ O_x1.out).mono ?_
  rintro e w4_ ⟨rfl, b_⟩
  have z4_ := b_.size
  try simp only [World.size_alloc] at z4_
  try simp only [World.size_drew] at z4_
  have S := Lib.hid (S.out.trans (b_.mono S.out.size))
  have O_x1 := Lib.hid (O_x1.out.below b_)
  clear b_
  go_wp2_with fail
  refine (T1.out _ (KF.out _ S.out).1).mono ?_
  rintro e w5_ ⟨v_t1, rfl, o_, b_⟩
  have z5_ := b_.size
  try simp only [World.size_alloc] at z5_
  try simp only [World.size_drew] at z5_
  have S := Lib.hid (S.out.trans (b_.mono S.out.size))
  have O_x1 := Lib.hid (O_x1.out.below b_)
  have O_t1 := Lib.hid o_
  have L_t1 := fun k hk => o_.lt k hk
  try simp only [World.size_alloc] at L_t1
  try simp only [World.size_drew] at L_t1
  clear o_ b_
  go_wp2_with fail
  refine (Q1.out _ _ _ _ _ O_x1.out O_t1.out).mono ?_
  rintro e w6_ ⟨rfl, b_⟩
  have z6_ := b_.size
  try simp only [World.size_alloc] at z6_
  try simp only [World.size_drew] at z6_
  have S := Lib.hid (S.out.trans (b_.mono S.out.size))
  have O_x1 := Lib.hid (O_x1.out.below b_)
  have O_t1 := Lib.hid (O_t1.out.below b_)
  clear b_
  go_wp2
  go_ret
  exact ⟨rfl, (KF.out _ S.out).2⟩
end Go.Proofs.Ytokgcchcjaimhaa
