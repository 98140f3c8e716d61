/- The law FnExactFewestChanges, walked over the contracts of both functions and of those that copy, compare, mark and look (made by gen_law.py). No condition. -/
import Derived.Test.YtanlfkkmnnjpeaaPk8
import Derived.Test.YtanlfkkmnnjpeaaPk12
import Derived.Test.YtanlfkkmnnjpeaaRow2L
import Derived.Test.YtanlfkkmnnjpeaaPlayerE
import Derived.Test.YtanlfkkmnnjpeaaSzI
namespace Go.Proofs.Ytanlfkkmnnjpeaa
open Go.RowKit

set_option maxRecDepth 100000 in
set_option maxHeartbeats 3200000 in
theorem FnExactFewestChanges_walk (a0 : Option Addr) (cap0 : Nat) (l0 : List RPlayer) (a1 : Option Addr) (n1 cap1 : Nat) (y1 : List (List Int)) (w : World) (w0 : ArgPlayer w a0 l0) (m0 : l0.length ≤ maxLen) (w1 : ArgSS w a1 n1 cap1 y1) :
    Calls Try.prog 7 #[.slice a0 l0.length cap0, .slice a1 n1 cap1] w fun e w' => e = .returned (.bool true) ∧ Below w.heap.size w w' := by
  obtain rfl : y1.length = n1 := w1.1
  have hby1 := bulk_len y1
  have hbl0 := bulkPlayer_len l0
  by_cases hl0 : (bulkPlayer l0 : Int) ≤ 1048576
  rotate_left
  · have Z0 := Lib.hid (szR_out hl0 ▸ szPlayerS_any a0 cap0 l0 1048576 w w0 m0 (by omega) (by omega))
    clear w0 w1
    go_enter Try.func7, Try.ntmps7
    go_wp2_with fail
    refine Z0.out.mono ?_
    rintro e wz ⟨rfl, bz⟩
    go_wp2
    go_ret
    exact ⟨rfl, bz⟩
  have Z0 := Lib.hid (szR_in hl0 ▸ szPlayerS_any a0 cap0 l0 1048576 w w0 m0 (by omega) (by omega))
  by_cases hl1 : (bulk y1 : Int) ≤ (1048576 - (bulkPlayer l0 : Int))
  rotate_left
  · have Z1 := Lib.hid (fun W (hb : Below w.heap.size w W) => szR_out hl1 ▸ szIntSS_any a1 y1.length cap1 y1 (1048576 - (bulkPlayer l0 : Int)) W (w1.below hb) (by omega) (by omega))
    clear w0 w1
    go_enter Try.func7, Try.ntmps7
    go_wp2_with fail
    refine Z0.out.mono ?_
    rintro e wz ⟨rfl, bz⟩
    go_wp2_with fail
    refine (Z1.out _ bz).mono ?_
    rintro e wq ⟨rfl, rfl⟩
    go_wp2
    go_ret
    exact ⟨rfl, bz⟩
  have Z1 := Lib.hid (fun W (hb : Below w.heap.size w W) => szR_in hl1 ▸ szIntSS_any a1 y1.length cap1 y1 (1048576 - (bulkPlayer l0 : Int)) W (w1.below hb) (by omega) (by omega))
  have T0 := Lib.hid (fun W h => toPlayerS_any a0 cap0 l0 W h (by omega))
  have Q0 := Lib.hid (fun v1 v2 b1 b2 W h1 h2 => eqPlayerS_same v1 v2 l0 b1 b2 W h1 h2 (by omega))
  have T1 := Lib.hid (fun W h => toIntSS_walk a1 y1.length cap1 y1 W h (by omega) (fun r hr => by have := bulk_row y1 r hr; omega))
  have Q1 := Lib.hid (fun v1 v2 b1 b2 W h1 h2 => eqIntSS_same v1 v2 y1 b1 b2 W h1 h2 (by omega) (fun r hr => by have := bulk_row y1 r hr; omega))
  have CS := Lib.hid (fun v0 b0 v1 b1 W h0 h1 => specFew v0 l0 b0 W h0 (by omega) (fun k hk => by have := bulkPlayer_row l0 k hk; omega) v1 y1 b1 h1 (by omega) (fun k hk => by have := bulk_row y1 k hk; omega))
  have CI := Lib.hid (fun v0 b0 v1 b1 W h0 h1 => implFew v0 l0 b0 W h0 (by omega) (fun k hk => by have := bulkPlayer_row l0 k hk; omega) v1 y1 b1 h1 (by omega) (fun k hk => by have := bulk_row y1 k hk; omega))
  generalize fewest l0 y1 = r at CS CI
  go_enter Try.func7, Try.ntmps7
  go_wp2_with fail
  refine Z0.out.mono ?_
  rintro e wz ⟨rfl, bz⟩
  have z0_ := bz.size
  have KF := Lib.hid (show ∀ W, Below (wz).heap.size wz W → ArgPlayer W a0 l0 ∧ ArgSS W a1 y1.length cap1 y1 ∧ Below w.heap.size w W from fun W hb => ⟨(w0.below bz).below hb, (w1.below bz).below hb, bz.trans (hb.mono bz.size)⟩)
  have S := Lib.hid (Below.refl (wz).heap.size wz)
  clear w0 w1
  clear Z0
  go_wp2_with fail
  refine (Z1.out _ bz).mono ?_
  rintro e wq ⟨rfl, rfl⟩
  clear Z1
  go_wp2_with fail
  refine (T0.out _ (KF.out _ S.out).1).mono ?_
  rintro e w1_ ⟨v_s0, rfl, o_, b_⟩
  have z1_ := b_.size
  try simp only [World.size_alloc] at z1_
  try simp only [World.size_drew] at z1_
  have S := Lib.hid (S.out.trans (b_.mono S.out.size))
  have O_s0 := Lib.hid o_
  have L_s0 := fun k hk => o_.lt k hk
  try simp only [World.size_alloc] at L_s0
  try simp only [World.size_drew] at L_s0
  clear o_ b_
  go_wp2_with fail
  refine (T1.out _ (KF.out _ S.out).2.1).mono ?_
  rintro e w2_ ⟨v_s1, rfl, o_, b_⟩
  have z2_ := b_.size
  try simp only [World.size_alloc] at z2_
  try simp only [World.size_drew] at z2_
  have S := Lib.hid (S.out.trans (b_.mono S.out.size))
  have O_s0 := Lib.hid (O_s0.out.below b_)
  have O_s1 := Lib.hid o_
  have L_s1 := fun k hk => o_.lt k hk
  try simp only [World.size_alloc] at L_s1
  try simp only [World.size_drew] at L_s1
  clear o_ b_
  go_wp2_with fail
  refine (CS.out _ _ _ _ _ O_s0.out O_s1.out).mono ?_
  rintro e w3_ ⟨rfl, b_⟩
  have z3_ := b_.size
  try simp only [World.size_alloc] at z3_
  try simp only [World.size_drew] at z3_
  have S := Lib.hid (S.out.trans (b_.mono S.out.size))
  have O_s0 := Lib.hid (O_s0.out.below b_)
  have O_s1 := Lib.hid (O_s1.out.below b_)
  clear b_
  go_wp2_with fail
  refine (T0.out _ (KF.out _ S.out).1).mono ?_
  rintro e w4_ ⟨v_x0, rfl, o_, b_⟩
  obtain ⟨A_x0, c_x0, rfl⟩ := o_.slice
  have z4_ := b_.size
  try simp only [World.size_alloc] at z4_
  try simp only [World.size_drew] at z4_
  have S := Lib.hid (S.out.trans (b_.mono S.out.size))
  have O_x0 := Lib.hid o_
  have L_x0 := fun k hk => o_.lt k hk
  try simp only [World.size_alloc] at L_x0
  try simp only [World.size_drew] at L_x0
  clear o_ b_
  go_wp2_with fail
  refine (T1.out _ (KF.out _ S.out).2.1).mono ?_
  rintro e w5_ ⟨v_x1, rfl, o_, b_⟩
  obtain ⟨A_x1, c_x1, rfl⟩ := o_.slice
  have z5_ := b_.size
  try simp only [World.size_alloc] at z5_
  try simp only [World.size_drew] at z5_
  have S := Lib.hid (S.out.trans (b_.mono S.out.size))
  have O_x0 := Lib.hid (O_x0.out.below b_)
  have O_x1 := Lib.hid o_
  have L_x1 := fun k hk => o_.lt k hk
  try simp only [World.size_alloc] at L_x1
  try simp only [World.size_drew] at L_x1
  clear o_ b_
  go_wp2_with fail
  refine (CI.out _ _ _ _ _ O_x0.out O_x1.out).mono ?_
  rintro e w6_ ⟨rfl, b_⟩
  have z6_ := b_.size
  try simp only [World.size_alloc] at z6_
  try simp only [World.size_drew] at z6_
  have S := Lib.hid (S.out.trans (b_.mono S.out.size))
  have O_x0 := Lib.hid (O_x0.out.below b_)
  have O_x1 := Lib.hid (O_x1.out.below b_)
  clear b_
  go_wp2_with fail
  refine (T0.out _ (KF.out _ S.out).1).mono ?_
  rintro e w7_ ⟨v_t0, rfl, o_, b_⟩
  have z7_ := b_.size
  try simp only [World.size_alloc] at z7_
  try simp only [World.size_drew] at z7_
  have S := Lib.hid (S.out.trans (b_.mono S.out.size))
  have O_x0 := Lib.hid (O_x0.out.below b_)
  have O_x1 := Lib.hid (O_x1.out.below b_)
  have O_t0 := Lib.hid o_
  have L_t0 := fun k hk => o_.lt k hk
  try simp only [World.size_alloc] at L_t0
  try simp only [World.size_drew] at L_t0
  clear o_ b_
  go_wp2_with fail
  refine (Q0.out _ _ _ _ _ O_x0.out O_t0.out).mono ?_
  rintro e w8_ ⟨rfl, b_⟩
  have z8_ := b_.size
  try simp only [World.size_alloc] at z8_
  try simp only [World.size_drew] at z8_
  have S := Lib.hid (S.out.trans (b_.mono S.out.size))
  have O_x0 := Lib.hid (O_x0.out.below b_)
  have O_x1 := Lib.hid (O_x1.out.below b_)
  have O_t0 := Lib.hid (O_t0.out.below b_)
  clear b_
  go_wp2_with fail
  refine (T1.out _ (KF.out _ S.out).2.1).mono ?_
  rintro e w9_ ⟨v_t1, rfl, o_, b_⟩
  have z9_ := b_.size
  try simp only [World.size_alloc] at z9_
  try simp only [World.size_drew] at z9_
  have S := Lib.hid (S.out.trans (b_.mono S.out.size))
  have O_x0 := Lib.hid (O_x0.out.below b_)
  have O_x1 := Lib.hid (O_x1.out.below b_)
  have O_t1 := Lib.hid o_
  have L_t1 := fun k hk => o_.lt k hk
  try simp only [World.size_alloc] at L_t1
  try simp only [World.size_drew] at L_t1
  clear o_ b_
  go_wp2_with fail
  refine (Q1.out _ _ _ _ _ O_x1.out O_t1.out).mono ?_
  rintro e w10_ ⟨rfl, b_⟩
  have z10_ := b_.size
  try simp only [World.size_alloc] at z10_
  try simp only [World.size_drew] at z10_
  have S := Lib.hid (S.out.trans (b_.mono S.out.size))
  have O_x0 := Lib.hid (O_x0.out.below b_)
  have O_x1 := Lib.hid (O_x1.out.below b_)
  have O_t1 := Lib.hid (O_t1.out.below b_)
  clear b_
  go_wp2
  go_ret
  exact ⟨rfl, (KF.out _ S.out).2.2⟩
end Go.Proofs.Ytanlfkkmnnjpeaa
