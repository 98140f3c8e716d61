/- The law FnExactLackOf, walked over the contracts of both functions and of those that copy, compare, mark and look (made by gen_law.py). No condition. -/
import Derived.Test.YtjpalndcfaeihaaPrgS
import Derived.Test.YtjpalndcfaeihaaPrgC
import Derived.Test.YtjpalndcfaeihaaArgI
import Derived.Test.YtjpalndcfaeihaaPlayerE
import Derived.Test.YtjpalndcfaeihaaSzI
import Derived.Test.YtjpalndcfaeihaaIntL
namespace Go.Proofs.Ytjpalndcfaeihaa
open Go.RowKit

set_option maxRecDepth 100000 in
set_option maxHeartbeats 3200000 in
theorem FnExactLackOf_walk (a0 : Option Addr) (cap0 : Nat) (l0 : List RPlayer) (a1 : Option Addr) (n1 cap1 : Nat) (z1 : List Int) (w : World) (w0 : ArgPlayer w a0 l0) (m0 : l0.length ≤ maxLen) (w1 : IsRow .i64 w a1 n1 cap1 z1) :
    Calls Try.prog 8 #[.slice a0 l0.length cap0, .slice a1 n1 cap1] w fun e w' => e = .returned (.bool true) ∧ Below w.heap.size w w' := by
  have mx1 := irow_max w1
  by_cases hn1 : 1048576 < n1
  · have hni1 : (1048576 : Int) < (n1 : Int) := by omega
    clear w0 w1
    go_enter Try.func8, Try.ntmps8
    go_wp2
    go_ret
    exact ⟨rfl, (Below.refl _ _)⟩
  have hni1 : ¬ (1048576 : Int) < (n1 : Int) := by omega
  have hbl0 := bulkPlayer_len l0
  by_cases hl0 : (bulkPlayer l0 : Int) ≤ 1048576
  rotate_left
  · have Z0 := Lib.hid (szR_out hl0 ▸ szPlayerS_any a0 cap0 l0 1048576 w w0 m0 (by omega) (by omega))
    clear w0 w1
    go_enter Try.func8, Try.ntmps8
    go_wp2_with fail
    refine Z0.out.mono ?_
    rintro e wz ⟨rfl, bz⟩
    go_wp2
    go_ret
    exact ⟨rfl, bz⟩
  have Z0 := Lib.hid (szR_in hl0 ▸ szPlayerS_any a0 cap0 l0 1048576 w w0 m0 (by omega) (by omega))
  have T0 := Lib.hid (fun W h => toPlayerS_any a0 cap0 l0 W h (by omega))
  have Q0 := Lib.hid (fun v1 v2 b1 b2 W h1 h2 => eqPlayerS_same v1 v2 l0 b1 b2 W h1 h2 (by omega))
  have T1 := Lib.hid (fun W h => toIntS_walk a1 n1 cap1 z1 W h (by omega))
  have hk1 : (z1.take n1).length ≤ 1048576 := by rw [irow_len w1]; omega
  have Q1 := Lib.hid (fun v1 v2 b1 b2 W h1 h2 => eqIntS_same v1 v2 (z1.take n1) b1 b2 W h1 h2 (by omega))
  have CS := Lib.hid (fun v0 b0 v1 b1 W h0 h1 => specLac v0 l0 b0 W h0 (by omega) (fun k hk => by have := bulkPlayer_row l0 k hk; omega) v1 (z1.take n1) b1 h1 (by omega))
  have CI := Lib.hid (fun v0 b0 v1 b1 W h0 h1 => implLac v0 l0 b0 W h0 (by omega) (fun k hk => by have := bulkPlayer_row l0 k hk; omega) v1 (z1.take n1) b1 h1 (by omega))
  generalize lackOf l0 (z1.take n1) = r at CS CI
  generalize z1.take n1 = t1 at T1 Q1 CS CI hk1
  go_enter Try.func8, Try.ntmps8
  go_wp2_with fail
  refine Z0.out.mono ?_
  rintro e wz ⟨rfl, bz⟩
  have z0_ := bz.size
  have KF := Lib.hid (show ∀ W, Below (wz).heap.size wz W → ArgPlayer W a0 l0 ∧ IsRow .i64 W a1 n1 cap1 z1 ∧ Below w.heap.size w W from fun W hb => ⟨(w0.below bz).below hb, irow_below (irow_below w1 bz) hb, bz.trans (hb.mono bz.size)⟩)
  have S := Lib.hid (Below.refl (wz).heap.size wz)
  clear w0 w1
  clear Z0
  go_wp2_with fail
  refine (T0.out _ (KF.out _ S.out).1).mono ?_
  rintro e w1_ ⟨v_s0, rfl, o_, b_⟩
  have z1_ := b_.size
  try simp only [World.size_alloc] at z1_
  try simp only [World.size_drew] at z1_
  have S := Lib.hid (S.out.trans (b_.mono S.out.size))
  have O_s0 := Lib.hid o_
  have L_s0 := fun k hk => o_.lt k hk
  try simp only [World.size_alloc] at L_s0
  try simp only [World.size_drew] at L_s0
  clear o_ b_
  go_wp2_with fail
  refine (T1.out _ (KF.out _ S.out).2.1).mono ?_
  rintro e w2_ ⟨v_s1, rfl, o_, b_⟩
  have z2_ := b_.size
  try simp only [World.size_alloc] at z2_
  try simp only [World.size_drew] at z2_
  have S := Lib.hid (S.out.trans (b_.mono S.out.size))
  have O_s0 := Lib.hid (O_s0.out.below b_)
  have O_s1 := Lib.hid o_
  have L_s1 := fun k hk => o_.lt k hk
  try simp only [World.size_alloc] at L_s1
  try simp only [World.size_drew] at L_s1
  clear o_ b_
  go_wp2_with fail
  refine (CS.out _ _ _ _ _ O_s0.out O_s1.out).mono ?_
  rintro e w3_ ⟨rfl, b_⟩
  have z3_ := b_.size
  try simp only [World.size_alloc] at z3_
  try simp only [World.size_drew] at z3_
  have S := Lib.hid (S.out.trans (b_.mono S.out.size))
  have O_s0 := Lib.hid (O_s0.out.below b_)
  have O_s1 := Lib.hid (O_s1.out.below b_)
  clear b_
  go_wp2_with fail
  refine (T0.out _ (KF.out _ S.out).1).mono ?_
  rintro e w4_ ⟨v_x0, rfl, o_, b_⟩
  obtain ⟨A_x0, c_x0, rfl⟩ := o_.slice
  have z4_ := b_.size
  try simp only [World.size_alloc] at z4_
  try simp only [World.size_drew] at z4_
  have S := Lib.hid (S.out.trans (b_.mono S.out.size))
  have O_x0 := Lib.hid o_
  have L_x0 := fun k hk => o_.lt k hk
  try simp only [World.size_alloc] at L_x0
  try simp only [World.size_drew] at L_x0
  clear o_ b_
  go_wp2_with fail
  refine (T1.out _ (KF.out _ S.out).2.1).mono ?_
  rintro e w5_ ⟨v_x1, rfl, o_, b_⟩
  obtain ⟨A_x1, c_x1, rfl⟩ := o_.slice
  have z5_ := b_.size
  try simp only [World.size_alloc] at z5_
  try simp only [World.size_drew] at z5_
  have S := Lib.hid (S.out.trans (b_.mono S.out.size))
  have O_x0 := Lib.hid (O_x0.out.below b_)
  have O_x1 := Lib.hid o_
  have L_x1 := fun k hk => o_.lt k hk
  try simp only [World.size_alloc] at L_x1
  try simp only [World.size_drew] at L_x1
  clear o_ b_
  go_wp2_with fail
  refine (CI.out _ _ _ _ _ O_x0.out O_x1.out).mono ?_
  rintro e w6_ ⟨rfl, b_⟩
  have z6_ := b_.size
  try simp only [World.size_alloc] at z6_
  try simp only [World.size_drew] at z6_
  have S := Lib.hid (S.out.trans (b_.mono S.out.size))
  have O_x0 := Lib.hid (O_x0.out.below b_)
  have O_x1 := Lib.hid (O_x1.out.below b_)
  clear b_
  go_wp2_with fail
  refine (T0.out _ (KF.out _ S.out).1).mono ?_
  rintro e w7_ ⟨v_t0, rfl, o_, b_⟩
  have z7_ := b_.size
  try simp only [World.size_alloc] at z7_
  try simp only [World.size_drew] at z7_
  have S := Lib.hid (S.out.trans (b_.mono S.out.size))
  have O_x0 := Lib.hid (O_x0.out.below b_)
  have O_x1 := Lib.hid (O_x1.out.below b_)
  have O_t0 := Lib.hid o_
  have L_t0 := fun k hk => o_.lt k hk
  try simp only [World.size_alloc] at L_t0
  try simp only [World.size_drew] at L_t0
  clear o_ b_
  go_wp2_with fail
  refine (Q0.out _ _ _ _ _ O_x0.out O_t0.out).mono ?_
  rintro e w8_ ⟨rfl, b_⟩
  have z8_ := b_.size
  try simp only [World.size_alloc] at z8_
  try simp only [World.size_drew] at z8_
  have S := Lib.hid (S.out.trans (b_.mono S.out.size))
  have O_x0 := Lib.hid (O_x0.out.below b_)
  have O_x1 := Lib.hid (O_x1.out.below b_)
  have O_t0 := Lib.hid (O_t0.out.below b_)
  clear b_
  go_wp2_with fail
  refine (T1.out _ (KF.out _ S.out).2.1).mono ?_
  rintro e w9_ ⟨v_t1, rfl, o_, b_⟩
  have z9_ := b_.size
  try simp only [World.size_alloc] at z9_
  try simp only [World.size_drew] at z9_
  have S := Lib.hid (S.out.trans (b_.mono S.out.size))
  have O_x0 := Lib.hid (O_x0.out.below b_)
  have O_x1 := Lib.hid (O_x1.out.below b_)
  have O_t1 := Lib.hid o_
  have L_t1 := fun k hk => o_.lt k hk
  try simp only [World.size_alloc] at L_t1
  try simp only [World.size_drew] at L_t1
  clear o_ b_
  go_wp2_with fail
  refine (Q1.out _ _ _ _ _ O_x1.out O_t1.out).mono ?_
  rintro e w10_ ⟨rfl, b_⟩
  have z10_ := b_.size
  try simp only [World.size_alloc] at z10_
  try simp only [World.size_drew] at z10_
  have S := Lib.hid (S.out.trans (b_.mono S.out.size))
  have O_x0 := Lib.hid (O_x0.out.below b_)
  have O_x1 := Lib.hid (O_x1.out.below b_)
  have O_t1 := Lib.hid (O_t1.out.below b_)
  clear b_
  go_wp2
  go_ret
  exact ⟨rfl, (KF.out _ S.out).2.2⟩
end Go.Proofs.Ytjpalndcfaeihaa
