/- The law FnExactStartsOf, walked over the contracts of both functions and of those that copy, compare, mark and look (made by gen_law.py). No condition. -/
import Derived.Test.YtbgogcobkiaejacTimS
import Derived.Test.YtbgogcobkiaejacPk9
import Derived.Test.YtbgogcobkiaejacCueE
import Derived.Test.YtbgogcobkiaejacCueK
import Derived.Test.YtbgogcobkiaejacPk2
import Derived.Test.YtbgogcobkiaejacMarkI
namespace Go.Proofs.Ytbgogcobkiaejac
open Go.RowKit

set_option maxRecDepth 100000 in
set_option maxHeartbeats 3200000 in
theorem FnExactStartsOf_walk (a0 : Option Addr) (cap0 : Nat) (l0 : List RCue) (w : World) (w0 : ArgCue w a0 l0) (m0 : l0.length ≤ maxLen) :
    Calls Try.prog 4 #[.slice a0 l0.length cap0] w fun e w' => e = .returned (.bool true) ∧ Below w.heap.size w w' := by
  have hbl0 := bulkCue_len l0
  by_cases hl0 : (bulkCue l0 : Int) ≤ 1048576
  rotate_left
  · have Z0 := Lib.hid (szR_out hl0 ▸ szCueS_any a0 cap0 l0 1048576 w w0 m0 (by omega) (by omega))
    clear w0
    go_enter Try.func4, Try.ntmps4
    go_wp2_with fail
    refine Z0.out.mono ?_
    rintro e wz ⟨rfl, bz⟩
    go_wp2
    go_ret
    exact ⟨rfl, bz⟩
  have Z0 := Lib.hid (szR_in hl0 ▸ szCueS_any a0 cap0 l0 1048576 w w0 m0 (by omega) (by omega))
  have T0 := Lib.hid (fun W h => toCueS_any a0 cap0 l0 W h (by omega))
  have Q0 := Lib.hid (fun v1 v2 b1 b2 W h1 h2 => eqCueS_same v1 v2 l0 b1 b2 W h1 h2 (by omega))
  have M0 := Lib.hid (fun v b t W h => markCueS_in v l0 b t W h (by omega))
  have CS := Lib.hid (fun v0 b0 W h0 => specSta v0 l0 b0 W h0 (by omega))
  have CI := Lib.hid (fun v0 b0 W h0 => implSta v0 l0 b0 W h0 (by omega))
  have hzs : (startsOf l0).length ≤ 2000000 := startsOf_len l0
  generalize startsOf l0 = r at CS CI hzs
  go_enter Try.func4, Try.ntmps4
  go_wp2_with fail
  refine Z0.out.mono ?_
  rintro e wz ⟨rfl, bz⟩
  have z0_ := bz.size
  have KF := Lib.hid (show ∀ W, Below (wz).heap.size wz W → ArgCue W a0 l0 ∧ Below w.heap.size w W from fun W hb => ⟨(w0.below bz).below hb, bz.trans (hb.mono bz.size)⟩)
  have S := Lib.hid (Below.refl (wz).heap.size wz)
  clear w0
  clear Z0
  go_wp2_with fail
  refine (T0.out _ (KF.out _ S.out).1).mono ?_
  rintro e w1_ ⟨v_s0, rfl, o_, b_⟩
  have z1_ := b_.size
  try simp only [World.size_alloc] at z1_
  try simp only [World.size_drew] at z1_
  have S := Lib.hid (S.out.trans (b_.mono S.out.size))
  have O_s0 := Lib.hid o_
  have L_s0 := fun k hk => o_.lt k hk
  try simp only [World.size_alloc] at L_s0
  try simp only [World.size_drew] at L_s0
  clear o_ b_
  go_wp2_with fail
  refine (CS.out _ _ _ O_s0.out).mono ?_
  rintro e w2_ ⟨v_w, rfl, o_, b_⟩
  have z2_ := b_.size
  try simp only [World.size_alloc] at z2_
  try simp only [World.size_drew] at z2_
  have S := Lib.hid (S.out.trans (b_.mono S.out.size))
  have O_s0 := Lib.hid (O_s0.out.below b_)
  have O_w := Lib.hid o_
  have L_w := fun k hk => o_.lt k hk
  try simp only [World.size_alloc] at L_w
  try simp only [World.size_drew] at L_w
  clear o_ b_
  go_wp2_with fail
  refine (T0.out _ (KF.out _ S.out).1).mono ?_
  rintro e w3_ ⟨v_x0, rfl, o_, b_⟩
  obtain ⟨A_x0, c_x0, rfl⟩ := o_.slice
  have z3_ := b_.size
  try simp only [World.size_alloc] at z3_
  try simp only [World.size_drew] at z3_
  have S := Lib.hid (S.out.trans (b_.mono S.out.size))
  have O_w := Lib.hid (O_w.out.below b_)
  have O_x0 := Lib.hid o_
  have L_x0 := fun k hk => o_.lt k hk
  try simp only [World.size_alloc] at L_x0
  try simp only [World.size_drew] at L_x0
  have B_x0 := Lib.hid o_.bound
  clear o_ b_
  go_wp2_with fail
  refine (CI.out _ _ _ O_x0.out).mono ?_
  rintro e w4_ ⟨v_g, rfl, o_, b_⟩
  have z4_ := b_.size
  try simp only [World.size_alloc] at z4_
  try simp only [World.size_drew] at z4_
  have S := Lib.hid (S.out.trans (b_.mono S.out.size))
  have O_w := Lib.hid (O_w.out.below b_)
  have O_x0 := Lib.hid (O_x0.out.below b_)
  have B_x0 := Lib.hid (B_x0.out.below b_)
  have O_g := Lib.hid o_
  have L_g := fun k hk => o_.lt k hk
  try simp only [World.size_alloc] at L_g
  try simp only [World.size_drew] at L_g
  clear o_ b_
  go_wp2_with fail
  refine (eqIntS_same _ _ _ _ _ _ O_g.out O_w.out hzs).mono ?_
  rintro e w5_ ⟨rfl, b_⟩
  have z5_ := b_.size
  try simp only [World.size_alloc] at z5_
  try simp only [World.size_drew] at z5_
  have S := Lib.hid (S.out.trans (b_.mono S.out.size))
  have O_w := Lib.hid (O_w.out.below b_)
  have O_x0 := Lib.hid (O_x0.out.below b_)
  have O_g := Lib.hid (O_g.out.below b_)
  have B_x0 := Lib.hid (B_x0.out.below b_)
  clear b_
  go_wp2_with fail
  refine (T0.out _ (KF.out _ S.out).1).mono ?_
  rintro e w6_ ⟨v_t0, rfl, o_, b_⟩
  have z6_ := b_.size
  try simp only [World.size_alloc] at z6_
  try simp only [World.size_drew] at z6_
  have S := Lib.hid (S.out.trans (b_.mono S.out.size))
  have O_w := Lib.hid (O_w.out.below b_)
  have O_x0 := Lib.hid (O_x0.out.below b_)
  have O_g := Lib.hid (O_g.out.below b_)
  have B_x0 := Lib.hid (B_x0.out.below b_)
  have O_t0 := Lib.hid o_
  have L_t0 := fun k hk => o_.lt k hk
  try simp only [World.size_alloc] at L_t0
  try simp only [World.size_drew] at L_t0
  clear o_ b_
  go_wp2_with fail
  refine (Q0.out _ _ _ _ _ O_x0.out O_t0.out).mono ?_
  rintro e w7_ ⟨rfl, b_⟩
  have z7_ := b_.size
  try simp only [World.size_alloc] at z7_
  try simp only [World.size_drew] at z7_
  have S := Lib.hid (S.out.trans (b_.mono S.out.size))
  have O_w := Lib.hid (O_w.out.below b_)
  have O_x0 := Lib.hid (O_x0.out.below b_)
  have O_g := Lib.hid (O_g.out.below b_)
  have O_t0 := Lib.hid (O_t0.out.below b_)
  have B_x0 := Lib.hid (B_x0.out.below b_)
  clear b_
  go_wp2_with fail
  refine (M0.out _ _ _ _ B_x0.out (1) _ (by first | omega | (push_cast; omega)) (by omega)).mono ?_
  rintro e w8_ ⟨rfl, g_⟩
  have z8_ := g_.size
  try simp only [World.size_alloc] at z8_
  try simp only [World.size_drew] at z8_
  have S := Lib.hid (g_.below S.out S.out.size (fun k hk => by have := hk.1; have := S.out.size; omega))
  have O_w := Lib.hid (O_w.out.in g_ (fun k hk p => by have := L_w k hk; have := p.1; have := p.2; omega))
  have O_g := Lib.hid (O_g.out.in g_ (fun k hk p => by have := L_g k hk; have := p.1; have := p.2; omega))
  clear g_
  go_wp2_with fail
  refine (eqIntS_same _ _ _ _ _ _ O_g.out O_w.out hzs).mono ?_
  rintro e w9_ ⟨rfl, b_⟩
  have z9_ := b_.size
  try simp only [World.size_alloc] at z9_
  try simp only [World.size_drew] at z9_
  have S := Lib.hid (S.out.trans (b_.mono S.out.size))
  have O_w := Lib.hid (O_w.out.below b_)
  have O_g := Lib.hid (O_g.out.below b_)
  clear b_
  go_wp2_with fail
  refine (markIntS_any _ _ _ _ O_g.out hzs 1 (by omega)).mono ?_
  rintro e w10_ ⟨rfl, o_, g_⟩
  have z10_ := g_.size
  try simp only [World.size_alloc] at z10_
  try simp only [World.size_drew] at z10_
  have S := Lib.hid (S.out.grown g_ S.out.size (fun k hk => by have := L_g k hk; have := S.out.size; (try simp only [World.size_alloc] at *); omega))
  have O_w := Lib.hid (O_w.out.kept g_ (sep_of (fun k hk e => by have := L_w k hk; have := L_g k e; omega)))
  have O_g := Lib.hid o_
  clear o_ g_
  go_wp2_with fail
  refine (heldIntS_any _ _ _ _ 1 O_g.out hzs (by omega)).mono ?_
  rintro e w11_ ⟨rfl, b_⟩
  have z11_ := b_.size
  try simp only [World.size_alloc] at z11_
  try simp only [World.size_drew] at z11_
  have S := Lib.hid (S.out.trans (b_.mono S.out.size))
  have O_w := Lib.hid (O_w.out.below b_)
  have O_g := Lib.hid (O_g.out.below b_)
  clear b_
  go_wp2_with fail
  refine (T0.out _ (KF.out _ S.out).1).mono ?_
  rintro e w12_ ⟨v_h0, rfl, o_, b_⟩
  have z12_ := b_.size
  try simp only [World.size_alloc] at z12_
  try simp only [World.size_drew] at z12_
  have S := Lib.hid (S.out.trans (b_.mono S.out.size))
  have O_w := Lib.hid (O_w.out.below b_)
  have O_g := Lib.hid (O_g.out.below b_)
  have O_h0 := Lib.hid o_
  have L_h0 := fun k hk => o_.lt k hk
  try simp only [World.size_alloc] at L_h0
  try simp only [World.size_drew] at L_h0
  clear o_ b_
  go_wp2_with fail
  refine (CI.out _ _ _ O_h0.out).mono ?_
  rintro e w13_ ⟨v_q, rfl, o_, b_⟩
  have z13_ := b_.size
  try simp only [World.size_alloc] at z13_
  try simp only [World.size_drew] at z13_
  have S := Lib.hid (S.out.trans (b_.mono S.out.size))
  have O_w := Lib.hid (O_w.out.below b_)
  have O_g := Lib.hid (O_g.out.below b_)
  have O_h0 := Lib.hid (O_h0.out.below b_)
  have O_q := Lib.hid o_
  have L_q := fun k hk => o_.lt k hk
  try simp only [World.size_alloc] at L_q
  try simp only [World.size_drew] at L_q
  clear o_ b_
  go_wp2_with fail
  refine (eqIntS_same _ _ _ _ _ _ O_q.out O_w.out hzs).mono ?_
  rintro e w14_ ⟨rfl, b_⟩
  have z14_ := b_.size
  try simp only [World.size_alloc] at z14_
  try simp only [World.size_drew] at z14_
  have S := Lib.hid (S.out.trans (b_.mono S.out.size))
  have O_w := Lib.hid (O_w.out.below b_)
  have O_g := Lib.hid (O_g.out.below b_)
  have O_q := Lib.hid (O_q.out.below b_)
  clear b_
  go_wp2_with fail
  refine (heldIntS_any _ _ _ _ 1 O_g.out hzs (by omega)).mono ?_
  rintro e w15_ ⟨rfl, b_⟩
  have z15_ := b_.size
  try simp only [World.size_alloc] at z15_
  try simp only [World.size_drew] at z15_
  have S := Lib.hid (S.out.trans (b_.mono S.out.size))
  have O_g := Lib.hid (O_g.out.below b_)
  clear b_
  go_wp2
  go_ret
  exact ⟨rfl, (KF.out _ S.out).2⟩
end Go.Proofs.Ytbgogcobkiaejac
