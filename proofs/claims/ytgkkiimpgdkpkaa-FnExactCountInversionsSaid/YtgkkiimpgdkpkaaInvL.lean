/- The law FnExactCountInversions, walked over the contracts of both functions and of those that copy, compare, mark and look (made by gen_law.py). No condition. -/
import Derived.Test.YtgkkiimpgdkpkaaOrdS
import Derived.Test.YtgkkiimpgdkpkaaOrdI
import Derived.Test.YtgkkiimpgdkpkaaArgI
namespace Go.Proofs.Ytgkkiimpgdkpkaa
open Go.RowKit

set_option maxRecDepth 100000 in
set_option maxHeartbeats 3200000 in
theorem FnExactCountInversions_walk (a0 : Option Addr) (n0 cap0 : Nat) (z0 : List Int) (w : World) (w0 : IsRow .i64 w a0 n0 cap0 z0) :
    Calls Try.prog 6 #[.slice a0 n0 cap0] w fun e w' => e = .returned (.bool true) ∧ Below w.heap.size w w' := by
  have mx0 := irow_max w0
  by_cases hn0 : 1048576 < n0
  · have hni0 : (1048576 : Int) < (n0 : Int) := by omega
    clear w0
    go_enter Try.func6, Try.ntmps6
    go_wp2
    go_ret
    exact ⟨rfl, (Below.refl _ _)⟩
  have hni0 : ¬ (1048576 : Int) < (n0 : Int) := by omega
  have T0 := Lib.hid (fun W h => toIntS_walk a0 n0 cap0 z0 W h (by omega))
  have hk0 : (z0.take n0).length ≤ 1048576 := by rw [irow_len w0]; omega
  have Q0 := Lib.hid (fun v1 v2 b1 b2 W h1 h2 => eqIntS_same v1 v2 (z0.take n0) b1 b2 W h1 h2 (by omega))
  have CS := Lib.hid (fun v0 b0 W h0 => specInv v0 (z0.take n0) b0 W h0 (by omega))
  have CI := Lib.hid (fun v0 b0 W h0 => implInv v0 (z0.take n0) b0 W h0 (by omega))
  have KF := Lib.hid (show ∀ W, Below (w).heap.size w W → IsRow .i64 W a0 n0 cap0 z0 ∧ Below w.heap.size w W from fun W hb => ⟨irow_below w0 hb, (Below.refl w.heap.size w).trans (hb.mono (by simp <;> omega))⟩)
  have S := Lib.hid (Below.refl (w).heap.size w)
  clear w0
  generalize (if orderOk (z0.take n0) = true then (invs (z0.take n0) : Int) else -1) = r at CS CI
  generalize z0.take n0 = t0 at T0 Q0 CS CI hk0
  go_enter Try.func6, Try.ntmps6
  go_wp2_with fail
  go_wp2_with fail
  refine (T0.out _ (KF.out _ S.out).1).mono ?_
  rintro e w1_ ⟨v_s0, rfl, o_, b_⟩
  have z1_ := b_.size
  try simp only [World.size_alloc] at z1_
  try simp only [World.size_drew] at z1_
  have S := Lib.hid (S.out.trans (b_.mono S.out.size))
  have O_s0 := Lib.hid o_
  have L_s0 := fun k hk => o_.lt k hk
  try simp only [World.size_alloc] at L_s0
  try simp only [World.size_drew] at L_s0
  clear o_ b_
  go_wp2_with fail
  refine (CS.out _ _ _ O_s0.out).mono ?_
  rintro e w2_ ⟨rfl, b_⟩
  have z2_ := b_.size
  try simp only [World.size_alloc] at z2_
  try simp only [World.size_drew] at z2_
  have S := Lib.hid (S.out.trans (b_.mono S.out.size))
  have O_s0 := Lib.hid (O_s0.out.below b_)
  clear b_
  go_wp2_with fail
  refine (T0.out _ (KF.out _ S.out).1).mono ?_
  rintro e w3_ ⟨v_x0, rfl, o_, b_⟩
  obtain ⟨A_x0, c_x0, rfl⟩ := o_.slice
  have z3_ := b_.size
  try simp only [World.size_alloc] at z3_
  try simp only [World.size_drew] at z3_
  have S := Lib.hid (S.out.trans (b_.mono S.out.size))
  have O_x0 := Lib.hid o_
  have L_x0 := fun k hk => o_.lt k hk
  try simp only [World.size_alloc] at L_x0
  try simp only [World.size_drew] at L_x0
  clear o_ b_
  go_wp2_with fail
  refine (CI.out _ _ _ O_x0.out).mono ?_
  rintro e w4_ ⟨rfl, b_⟩
  have z4_ := b_.size
  try simp only [World.size_alloc] at z4_
  try simp only [World.size_drew] at z4_
  have S := Lib.hid (S.out.trans (b_.mono S.out.size))
  have O_x0 := Lib.hid (O_x0.out.below b_)
  clear b_
  go_wp2_with fail
  refine (T0.out _ (KF.out _ S.out).1).mono ?_
  rintro e w5_ ⟨v_t0, rfl, o_, b_⟩
  have z5_ := b_.size
  try simp only [World.size_alloc] at z5_
  try simp only [World.size_drew] at z5_
  have S := Lib.hid (S.out.trans (b_.mono S.out.size))
  have O_x0 := Lib.hid (O_x0.out.below b_)
  have O_t0 := Lib.hid o_
  have L_t0 := fun k hk => o_.lt k hk
  try simp only [World.size_alloc] at L_t0
  try simp only [World.size_drew] at L_t0
  clear o_ b_
  go_wp2_with fail
  refine (Q0.out _ _ _ _ _ O_x0.out O_t0.out).mono ?_
  rintro e w6_ ⟨rfl, b_⟩
  have z6_ := b_.size
  try simp only [World.size_alloc] at z6_
  try simp only [World.size_drew] at z6_
  have S := Lib.hid (S.out.trans (b_.mono S.out.size))
  have O_x0 := Lib.hid (O_x0.out.below b_)
  have O_t0 := Lib.hid (O_t0.out.below b_)
  clear b_
  go_wp2
  go_ret
  exact ⟨rfl, (KF.out _ S.out).2⟩
end Go.Proofs.Ytgkkiimpgdkpkaa
