/- The law FnExactChangesBetween, walked over the contracts of both functions and of those that copy, compare, mark and look (made by gen_law.py). No condition. -/
import Derived.Test.YtanlfkkmnnjpeaaChbS
import Derived.Test.YtanlfkkmnnjpeaaChbI
import Derived.Test.YtanlfkkmnnjpeaaArgI
import Derived.Test.YtanlfkkmnnjpeaaIntL
namespace Go.Proofs.Ytanlfkkmnnjpeaa
open Go.RowKit

set_option maxRecDepth 100000 in
set_option maxHeartbeats 3200000 in
theorem FnExactChangesBetween_walk (a0 : Option Addr) (n0 cap0 : Nat) (z0 : List Int) (a1 : Option Addr) (n1 cap1 : Nat) (z1 : List Int) (a2 : Option Addr) (n2 cap2 : Nat) (z2 : List Int) (a3 : Option Addr) (n3 cap3 : Nat) (z3 : List Int) (w : World) (w0 : IsRow .i64 w a0 n0 cap0 z0) (w1 : IsRow .i64 w a1 n1 cap1 z1) (w2 : IsRow .i64 w a2 n2 cap2 z2) (w3 : IsRow .i64 w a3 n3 cap3 z3) :
    Calls Try.prog 6 #[.slice a0 n0 cap0, .slice a1 n1 cap1, .slice a2 n2 cap2, .slice a3 n3 cap3] w fun e w' => e = .returned (.bool true) ∧ Below w.heap.size w w' := by
  have mx0 := irow_max w0
  have mx1 := irow_max w1
  have mx2 := irow_max w2
  have mx3 := irow_max w3
  by_cases hn0 : 1048576 < n0
  · have hni0 : (1048576 : Int) < (n0 : Int) := by omega
    clear w0 w1 w2 w3
    go_enter Try.func6, Try.ntmps6
    go_wp2
    go_ret
    exact ⟨rfl, (Below.refl _ _)⟩
  have hni0 : ¬ (1048576 : Int) < (n0 : Int) := by omega
  by_cases hn1 : 1048576 < n1
  · have hni1 : (1048576 : Int) < (n1 : Int) := by omega
    clear w0 w1 w2 w3
    go_enter Try.func6, Try.ntmps6
    go_wp2
    go_ret
    exact ⟨rfl, (Below.refl _ _)⟩
  have hni1 : ¬ (1048576 : Int) < (n1 : Int) := by omega
  by_cases hn2 : 1048576 < n2
  · have hni2 : (1048576 : Int) < (n2 : Int) := by omega
    clear w0 w1 w2 w3
    go_enter Try.func6, Try.ntmps6
    go_wp2
    go_ret
    exact ⟨rfl, (Below.refl _ _)⟩
  have hni2 : ¬ (1048576 : Int) < (n2 : Int) := by omega
  by_cases hn3 : 1048576 < n3
  · have hni3 : (1048576 : Int) < (n3 : Int) := by omega
    clear w0 w1 w2 w3
    go_enter Try.func6, Try.ntmps6
    go_wp2
    go_ret
    exact ⟨rfl, (Below.refl _ _)⟩
  have hni3 : ¬ (1048576 : Int) < (n3 : Int) := by omega
  have T0 := Lib.hid (fun W h => toIntS_walk a0 n0 cap0 z0 W h (by omega))
  have hk0 : (z0.take n0).length ≤ 1048576 := by rw [irow_len w0]; omega
  have Q0 := Lib.hid (fun v1 v2 b1 b2 W h1 h2 => eqIntS_same v1 v2 (z0.take n0) b1 b2 W h1 h2 (by omega))
  have T1 := Lib.hid (fun W h => toIntS_walk a1 n1 cap1 z1 W h (by omega))
  have hk1 : (z1.take n1).length ≤ 1048576 := by rw [irow_len w1]; omega
  have Q1 := Lib.hid (fun v1 v2 b1 b2 W h1 h2 => eqIntS_same v1 v2 (z1.take n1) b1 b2 W h1 h2 (by omega))
  have T2 := Lib.hid (fun W h => toIntS_walk a2 n2 cap2 z2 W h (by omega))
  have hk2 : (z2.take n2).length ≤ 1048576 := by rw [irow_len w2]; omega
  have Q2 := Lib.hid (fun v1 v2 b1 b2 W h1 h2 => eqIntS_same v1 v2 (z2.take n2) b1 b2 W h1 h2 (by omega))
  have T3 := Lib.hid (fun W h => toIntS_walk a3 n3 cap3 z3 W h (by omega))
  have hk3 : (z3.take n3).length ≤ 1048576 := by rw [irow_len w3]; omega
  have Q3 := Lib.hid (fun v1 v2 b1 b2 W h1 h2 => eqIntS_same v1 v2 (z3.take n3) b1 b2 W h1 h2 (by omega))
  have CS := Lib.hid (fun v0 b0 v1 b1 v2 b2 v3 b3 W h0 h1 h2 h3 => specChb v0 v1 v2 v3 (z0.take n0) (z1.take n1) (z2.take n2) (z3.take n3) b0 b1 b2 b3 W h0 h1 h2 h3 (by omega) (by omega) (by omega) (by omega))
  have CI := Lib.hid (fun v0 b0 v1 b1 v2 b2 v3 b3 W h0 h1 h2 h3 => implChb v0 v1 v2 v3 (z0.take n0) (z1.take n1) (z2.take n2) (z3.take n3) b0 b1 b2 b3 W h0 h1 h2 h3 (by omega) (by omega) (by omega) (by omega))
  have KF := Lib.hid (show ∀ W, Below (w).heap.size w W → IsRow .i64 W a0 n0 cap0 z0 ∧ IsRow .i64 W a1 n1 cap1 z1 ∧ IsRow .i64 W a2 n2 cap2 z2 ∧ IsRow .i64 W a3 n3 cap3 z3 ∧ Below w.heap.size w W from fun W hb => ⟨irow_below w0 hb, irow_below w1 hb, irow_below w2 hb, irow_below w3 hb, (Below.refl w.heap.size w).trans (hb.mono (by simp <;> omega))⟩)
  have S := Lib.hid (Below.refl (w).heap.size w)
  clear w0 w1 w2 w3
  generalize changesB (z0.take n0) (z1.take n1) (z2.take n2) (z3.take n3) = r at CS CI
  generalize z0.take n0 = t0 at T0 Q0 CS CI hk0
  generalize z1.take n1 = t1 at T1 Q1 CS CI hk1
  generalize z2.take n2 = t2 at T2 Q2 CS CI hk2
  generalize z3.take n3 = t3 at T3 Q3 CS CI hk3
  go_enter Try.func6, Try.ntmps6
  go_wp2_with fail
  go_wp2_with fail
  refine (T0.out _ (KF.out _ S.out).1).mono ?_
  rintro e w1_ ⟨v_s0, rfl, o_, b_⟩
  have z1_ := b_.size
  try simp only [World.size_alloc] at z1_
  try simp only [World.size_drew] at z1_
  have S := Lib.hid (S.out.trans (b_.mono S.out.size))
  have O_s0 := Lib.hid o_
  have L_s0 := fun k hk => o_.lt k hk
  try simp only [World.size_alloc] at L_s0
  try simp only [World.size_drew] at L_s0
  clear o_ b_
  go_wp2_with fail
  refine (T1.out _ (KF.out _ S.out).2.1).mono ?_
  rintro e w2_ ⟨v_s1, rfl, o_, b_⟩
  have z2_ := b_.size
  try simp only [World.size_alloc] at z2_
  try simp only [World.size_drew] at z2_
  have S := Lib.hid (S.out.trans (b_.mono S.out.size))
  have O_s0 := Lib.hid (O_s0.out.below b_)
  have O_s1 := Lib.hid o_
  have L_s1 := fun k hk => o_.lt k hk
  try simp only [World.size_alloc] at L_s1
  try simp only [World.size_drew] at L_s1
  clear o_ b_
  go_wp2_with fail
  refine (T2.out _ (KF.out _ S.out).2.2.1).mono ?_
  rintro e w3_ ⟨v_s2, rfl, o_, b_⟩
  have z3_ := b_.size
  try simp only [World.size_alloc] at z3_
  try simp only [World.size_drew] at z3_
  have S := Lib.hid (S.out.trans (b_.mono S.out.size))
  have O_s0 := Lib.hid (O_s0.out.below b_)
  have O_s1 := Lib.hid (O_s1.out.below b_)
  have O_s2 := Lib.hid o_
  have L_s2 := fun k hk => o_.lt k hk
  try simp only [World.size_alloc] at L_s2
  try simp only [World.size_drew] at L_s2
  clear o_ b_
  go_wp2_with fail
  refine (T3.out _ (KF.out _ S.out).2.2.2.1).mono ?_
  rintro e w4_ ⟨v_s3, rfl, o_, b_⟩
  have z4_ := b_.size
  try simp only [World.size_alloc] at z4_
  try simp only [World.size_drew] at z4_
  have S := Lib.hid (S.out.trans (b_.mono S.out.size))
  have O_s0 := Lib.hid (O_s0.out.below b_)
  have O_s1 := Lib.hid (O_s1.out.below b_)
  have O_s2 := Lib.hid (O_s2.out.below b_)
  have O_s3 := Lib.hid o_
  have L_s3 := fun k hk => o_.lt k hk
  try simp only [World.size_alloc] at L_s3
  try simp only [World.size_drew] at L_s3
  clear o_ b_
  go_wp2_with fail
  refine (CS.out _ _ _ _ _ _ _ _ _ O_s0.out O_s1.out O_s2.out O_s3.out).mono ?_
  rintro e w5_ ⟨rfl, b_⟩
  have z5_ := b_.size
  try simp only [World.size_alloc] at z5_
  try simp only [World.size_drew] at z5_
  have S := Lib.hid (S.out.trans (b_.mono S.out.size))
  have O_s0 := Lib.hid (O_s0.out.below b_)
  have O_s1 := Lib.hid (O_s1.out.below b_)
  have O_s2 := Lib.hid (O_s2.out.below b_)
  have O_s3 := Lib.hid (O_s3.out.below b_)
  clear b_
  go_wp2_with fail
  refine (T0.out _ (KF.out _ S.out).1).mono ?_
  rintro e w6_ ⟨v_x0, rfl, o_, b_⟩
  obtain ⟨A_x0, c_x0, rfl⟩ := o_.slice
  have z6_ := b_.size
  try simp only [World.size_alloc] at z6_
  try simp only [World.size_drew] at z6_
  have S := Lib.hid (S.out.trans (b_.mono S.out.size))
  have O_x0 := Lib.hid o_
  have L_x0 := fun k hk => o_.lt k hk
  try simp only [World.size_alloc] at L_x0
  try simp only [World.size_drew] at L_x0
  clear o_ b_
  go_wp2_with fail
  refine (T1.out _ (KF.out _ S.out).2.1).mono ?_
  rintro e w7_ ⟨v_x1, rfl, o_, b_⟩
  obtain ⟨A_x1, c_x1, rfl⟩ := o_.slice
  have z7_ := b_.size
  try simp only [World.size_alloc] at z7_
  try simp only [World.size_drew] at z7_
  have S := Lib.hid (S.out.trans (b_.mono S.out.size))
  have O_x0 := Lib.hid (O_x0.out.below b_)
  have O_x1 := Lib.hid o_
  have L_x1 := fun k hk => o_.lt k hk
  try simp only [World.size_alloc] at L_x1
  try simp only [World.size_drew] at L_x1
  clear o_ b_
  go_wp2_with fail
  refine (T2.out _ (KF.out _ S.out).2.2.1).mono ?_
  rintro e w8_ ⟨v_x2, rfl, o_, b_⟩
  obtain ⟨A_x2, c_x2, rfl⟩ := o_.slice
  have z8_ := b_.size
  try simp only [World.size_alloc] at z8_
  try simp only [World.size_drew] at z8_
  have S := Lib.hid (S.out.trans (b_.mono S.out.size))
  have O_x0 := Lib.hid (O_x0.out.below b_)
  have O_x1 := Lib.hid (O_x1.out.below b_)
  have O_x2 := Lib.hid o_
  have L_x2 := fun k hk => o_.lt k hk
  try simp only [World.size_alloc] at L_x2
  try simp only [World.size_drew] at L_x2
  clear o_ b_
  go_wp2_with fail
  refine (T3.out _ (KF.out _ S.out).2.2.2.1).mono ?_
  rintro e w9_ ⟨v_x3, rfl, o_, b_⟩
  obtain ⟨A_x3, c_x3, rfl⟩ := o_.slice
  have z9_ := b_.size
  try simp only [World.size_alloc] at z9_
  try simp only [World.size_drew] at z9_
  have S := Lib.hid (S.out.trans (b_.mono S.out.size))
  have O_x0 := Lib.hid (O_x0.out.below b_)
  have O_x1 := Lib.hid (O_x1.out.below b_)
  have O_x2 := Lib.hid (O_x2.out.below b_)
  have O_x3 := Lib.hid o_
  have L_x3 := fun k hk => o_.lt k hk
  try simp only [World.size_alloc] at L_x3
  try simp only [World.size_drew] at L_x3
  clear o_ b_
  go_wp2_with fail
  refine (CI.out _ _ _ _ _ _ _ _ _ O_x0.out O_x1.out O_x2.out O_x3.out).mono ?_
  rintro e w10_ ⟨rfl, b_⟩
  have z10_ := b_.size
  try simp only [World.size_alloc] at z10_
  try simp only [World.size_drew] at z10_
  have S := Lib.hid (S.out.trans (b_.mono S.out.size))
  have O_x0 := Lib.hid (O_x0.out.below b_)
  have O_x1 := Lib.hid (O_x1.out.below b_)
  have O_x2 := Lib.hid (O_x2.out.below b_)
  have O_x3 := Lib.hid (O_x3.out.below b_)
  clear b_
  go_wp2_with fail
  refine (T0.out _ (KF.out _ S.out).1).mono ?_
  rintro e w11_ ⟨v_t0, rfl, o_, b_⟩
  have z11_ := b_.size
  try simp only [World.size_alloc] at z11_
  try simp only [World.size_drew] at z11_
  have S := Lib.hid (S.out.trans (b_.mono S.out.size))
  have O_x0 := Lib.hid (O_x0.out.below b_)
  have O_x1 := Lib.hid (O_x1.out.below b_)
  have O_x2 := Lib.hid (O_x2.out.below b_)
  have O_x3 := Lib.hid (O_x3.out.below b_)
  have O_t0 := Lib.hid o_
  have L_t0 := fun k hk => o_.lt k hk
  try simp only [World.size_alloc] at L_t0
  try simp only [World.size_drew] at L_t0
  clear o_ b_
  go_wp2_with fail
  refine (Q0.out _ _ _ _ _ O_x0.out O_t0.out).mono ?_
  rintro e w12_ ⟨rfl, b_⟩
  have z12_ := b_.size
  try simp only [World.size_alloc] at z12_
  try simp only [World.size_drew] at z12_
  have S := Lib.hid (S.out.trans (b_.mono S.out.size))
  have O_x0 := Lib.hid (O_x0.out.below b_)
  have O_x1 := Lib.hid (O_x1.out.below b_)
  have O_x2 := Lib.hid (O_x2.out.below b_)
  have O_x3 := Lib.hid (O_x3.out.below b_)
  have O_t0 := Lib.hid (O_t0.out.below b_)
  clear b_
  go_wp2_with fail
  refine (T1.out _ (KF.out _ S.out).2.1).mono ?_
  rintro e w13_ ⟨v_t1, rfl, o_, b_⟩
  have z13_ := b_.size
  try simp only [World.size_alloc] at z13_
  try simp only [World.size_drew] at z13_
  have S := Lib.hid (S.out.trans (b_.mono S.out.size))
  have O_x0 := Lib.hid (O_x0.out.below b_)
  have O_x1 := Lib.hid (O_x1.out.below b_)
  have O_x2 := Lib.hid (O_x2.out.below b_)
  have O_x3 := Lib.hid (O_x3.out.below b_)
  have O_t1 := Lib.hid o_
  have L_t1 := fun k hk => o_.lt k hk
  try simp only [World.size_alloc] at L_t1
  try simp only [World.size_drew] at L_t1
  clear o_ b_
  go_wp2_with fail
  refine (Q1.out _ _ _ _ _ O_x1.out O_t1.out).mono ?_
  rintro e w14_ ⟨rfl, b_⟩
  have z14_ := b_.size
  try simp only [World.size_alloc] at z14_
  try simp only [World.size_drew] at z14_
  have S := Lib.hid (S.out.trans (b_.mono S.out.size))
  have O_x0 := Lib.hid (O_x0.out.below b_)
  have O_x1 := Lib.hid (O_x1.out.below b_)
  have O_x2 := Lib.hid (O_x2.out.below b_)
  have O_x3 := Lib.hid (O_x3.out.below b_)
  have O_t1 := Lib.hid (O_t1.out.below b_)
  clear b_
  go_wp2_with fail
  refine (T2.out _ (KF.out _ S.out).2.2.1).mono ?_
  rintro e w15_ ⟨v_t2, rfl, o_, b_⟩
  have z15_ := b_.size
  try simp only [World.size_alloc] at z15_
  try simp only [World.size_drew] at z15_
  have S := Lib.hid (S.out.trans (b_.mono S.out.size))
  have O_x0 := Lib.hid (O_x0.out.below b_)
  have O_x1 := Lib.hid (O_x1.out.below b_)
  have O_x2 := Lib.hid (O_x2.out.below b_)
  have O_x3 := Lib.hid (O_x3.out.below b_)
  have O_t2 := Lib.hid o_
  have L_t2 := fun k hk => o_.lt k hk
  try simp only [World.size_alloc] at L_t2
  try simp only [World.size_drew] at L_t2
  clear o_ b_
  go_wp2_with fail
  refine (Q2.out _ _ _ _ _ O_x2.out O_t2.out).mono ?_
  rintro e w16_ ⟨rfl, b_⟩
  have z16_ := b_.size
  try simp only [World.size_alloc] at z16_
  try simp only [World.size_drew] at z16_
  have S := Lib.hid (S.out.trans (b_.mono S.out.size))
  have O_x0 := Lib.hid (O_x0.out.below b_)
  have O_x1 := Lib.hid (O_x1.out.below b_)
  have O_x2 := Lib.hid (O_x2.out.below b_)
  have O_x3 := Lib.hid (O_x3.out.below b_)
  have O_t2 := Lib.hid (O_t2.out.below b_)
  clear b_
  go_wp2_with fail
  refine (T3.out _ (KF.out _ S.out).2.2.2.1).mono ?_
  rintro e w17_ ⟨v_t3, rfl, o_, b_⟩
  have z17_ := b_.size
  try simp only [World.size_alloc] at z17_
  try simp only [World.size_drew] at z17_
  have S := Lib.hid (S.out.trans (b_.mono S.out.size))
  have O_x0 := Lib.hid (O_x0.out.below b_)
  have O_x1 := Lib.hid (O_x1.out.below b_)
  have O_x2 := Lib.hid (O_x2.out.below b_)
  have O_x3 := Lib.hid (O_x3.out.below b_)
  have O_t3 := Lib.hid o_
  have L_t3 := fun k hk => o_.lt k hk
  try simp only [World.size_alloc] at L_t3
  try simp only [World.size_drew] at L_t3
  clear o_ b_
  go_wp2_with fail
  refine (Q3.out _ _ _ _ _ O_x3.out O_t3.out).mono ?_
  rintro e w18_ ⟨rfl, b_⟩
  have z18_ := b_.size
  try simp only [World.size_alloc] at z18_
  try simp only [World.size_drew] at z18_
  have S := Lib.hid (S.out.trans (b_.mono S.out.size))
  have O_x0 := Lib.hid (O_x0.out.below b_)
  have O_x1 := Lib.hid (O_x1.out.below b_)
  have O_x2 := Lib.hid (O_x2.out.below b_)
  have O_x3 := Lib.hid (O_x3.out.below b_)
  have O_t3 := Lib.hid (O_t3.out.below b_)
  clear b_
  go_wp2
  go_ret
  exact ⟨rfl, (KF.out _ S.out).2.2.2.2⟩
end Go.Proofs.Ytanlfkkmnnjpeaa
