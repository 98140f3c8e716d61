/- The law FnExactPlayTime, walked over the contracts of both functions and of those that copy, compare, mark and look (made by gen_law.py). No condition. -/
import Derived.Test.YtbgogcobkiaejacTimP
import Derived.Test.YtbgogcobkiaejacPk9
import Derived.Test.YtbgogcobkiaejacCueE
import Derived.Test.YtbgogcobkiaejacPk2
namespace Go.Proofs.Ytbgogcobkiaejac
open Go.RowKit

set_option maxRecDepth 100000 in
set_option maxHeartbeats 3200000 in
theorem FnExactPlayTime_walk (a0 : Option Addr) (cap0 : Nat) (l0 : List RCue) (w : World) (w0 : ArgCue w a0 l0) (m0 : l0.length ≤ maxLen) :
    Calls Try.prog 5 #[.slice a0 l0.length cap0] w fun e w' => e = .returned (.bool true) ∧ Below w.heap.size w w' := by
  have hbl0 := bulkCue_len l0
  by_cases hl0 : (bulkCue l0 : Int) ≤ 1048576
  rotate_left
  · have Z0 := Lib.hid (szR_out hl0 ▸ szCueS_any a0 cap0 l0 1048576 w w0 m0 (by omega) (by omega))
    clear w0
    go_enter Try.func5, Try.ntmps5
    go_wp2_with fail
    refine Z0.out.mono ?_
    rintro e wz ⟨rfl, bz⟩
    go_wp2
    go_ret
    exact ⟨rfl, bz⟩
  have Z0 := Lib.hid (szR_in hl0 ▸ szCueS_any a0 cap0 l0 1048576 w w0 m0 (by omega) (by omega))
  have T0 := Lib.hid (fun W h => toCueS_any a0 cap0 l0 W h (by omega))
  have Q0 := Lib.hid (fun v1 v2 b1 b2 W h1 h2 => eqCueS_same v1 v2 l0 b1 b2 W h1 h2 (by omega))
  have CS := Lib.hid (fun v0 b0 W h0 => specPla v0 l0 b0 W h0 (by omega))
  have CI := Lib.hid (fun v0 b0 W h0 => implPla v0 l0 b0 W h0 (by omega))
  generalize playTime l0 = r at CS CI
  go_enter Try.func5, Try.ntmps5
  go_wp2_with fail
  refine Z0.out.mono ?_
  rintro e wz ⟨rfl, bz⟩
  have z0_ := bz.size
  have KF := Lib.hid (show ∀ W, Below (wz).heap.size wz W → ArgCue W a0 l0 ∧ Below w.heap.size w W from fun W hb => ⟨(w0.below bz).below hb, bz.trans (hb.mono bz.size)⟩)
  have S := Lib.hid (Below.refl (wz).heap.size wz)
  clear w0
  clear Z0
  go_wp2_with fail
  refine (T0.out _ (KF.out _ S.out).1).mono ?_
  rintro e w1_ ⟨v_s0, rfl, o_, b_⟩
  have z1_ := b_.size
  try simp only [World.size_alloc] at z1_
  try simp only [World.size_drew] at z1_
  have S := Lib.hid (S.out.trans (b_.mono S.out.size))
  have O_s0 := Lib.hid o_
  have L_s0 := fun k hk => o_.lt k hk
  try simp only [World.size_alloc] at L_s0
  try simp only [World.size_drew] at L_s0
  clear o_ b_
  go_wp2_with fail
  refine (CS.out _ _ _ O_s0.out).mono ?_
  rintro e w2_ ⟨rfl, b_⟩
  have z2_ := b_.size
  try simp only [World.size_alloc] at z2_
  try simp only [World.size_drew] at z2_
  have S := Lib.hid (S.out.trans (b_.mono S.out.size))
  have O_s0 := Lib.hid (O_s0.out.below b_)
  clear b_
  go_wp2_with fail
  refine (T0.out _ (KF.out _ S.out).1).mono ?_
  rintro e w3_ ⟨v_x0, rfl, o_, b_⟩
  obtain ⟨A_x0, c_x0, rfl⟩ := o_.slice
  have z3_ := b_.size
  try simp only [World.size_alloc] at z3_
  try simp only [World.size_drew] at z3_
  have S := Lib.hid (S.out.trans (b_.mono S.out.size))
  have O_x0 := Lib.hid o_
  have L_x0 := fun k hk => o_.lt k hk
  try simp only [World.size_alloc] at L_x0
  try simp only [World.size_drew] at L_x0
  clear o_ b_
  go_wp2_with fail
  refine (CI.out _ _ _ O_x0.out).mono ?_
  rintro e w4_ ⟨rfl, b_⟩
  have z4_ := b_.size
  try simp only [World.size_alloc] at z4_
  try simp only [World.size_drew] at z4_
  have S := Lib.hid (S.out.trans (b_.mono S.out.size))
  have O_x0 := Lib.hid (O_x0.out.below b_)
  clear b_
  go_wp2_with fail
  refine (T0.out _ (KF.out _ S.out).1).mono ?_
  rintro e w5_ ⟨v_t0, rfl, o_, b_⟩
  have z5_ := b_.size
  try simp only [World.size_alloc] at z5_
  try simp only [World.size_drew] at z5_
  have S := Lib.hid (S.out.trans (b_.mono S.out.size))
  have O_x0 := Lib.hid (O_x0.out.below b_)
  have O_t0 := Lib.hid o_
  have L_t0 := fun k hk => o_.lt k hk
  try simp only [World.size_alloc] at L_t0
  try simp only [World.size_drew] at L_t0
  clear o_ b_
  go_wp2_with fail
  refine (Q0.out _ _ _ _ _ O_x0.out O_t0.out).mono ?_
  rintro e w6_ ⟨rfl, b_⟩
  have z6_ := b_.size
  try simp only [World.size_alloc] at z6_
  try simp only [World.size_drew] at z6_
  have S := Lib.hid (S.out.trans (b_.mono S.out.size))
  have O_x0 := Lib.hid (O_x0.out.below b_)
  have O_t0 := Lib.hid (O_t0.out.below b_)
  clear b_
  go_wp2
  go_ret
  exact ⟨rfl, (KF.out _ S.out).2⟩
end Go.Proofs.Ytbgogcobkiaejac
