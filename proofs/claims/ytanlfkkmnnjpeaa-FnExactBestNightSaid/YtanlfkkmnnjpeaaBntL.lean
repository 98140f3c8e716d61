/- The law FnExactBestNight, walked over the contracts of both functions and of those that copy, compare, mark and look (made by gen_law.py). No condition. -/
import Derived.Test.YtanlfkkmnnjpeaaPk9
import Derived.Test.YtanlfkkmnnjpeaaPk11
import Derived.Test.YtanlfkkmnnjpeaaPk7
import Derived.Test.YtanlfkkmnnjpeaaPk12
import Derived.Test.YtanlfkkmnnjpeaaRow2L
import Derived.Test.YtanlfkkmnnjpeaaPlayerE
import Derived.Test.YtanlfkkmnnjpeaaPlayerK
import Derived.Test.YtanlfkkmnnjpeaaRowG
import Derived.Test.YtanlfkkmnnjpeaaSzI
import Derived.Test.YtanlfkkmnnjpeaaRowRE
import Derived.Test.YtanlfkkmnnjpeaaRowRM
import Derived.Test.YtanlfkkmnnjpeaaRowU
namespace Go.Proofs.Ytanlfkkmnnjpeaa
open Go.RowKit

set_option maxRecDepth 100000 in
set_option maxHeartbeats 3200000 in
theorem FnExactBestNight_walk (a0 : Option Addr) (cap0 : Nat) (l0 : List RPlayer) (a1 : Option Addr) (n1 cap1 : Nat) (y1 : List (List Int)) (w : World) (w0 : ArgPlayer w a0 l0) (m0 : l0.length ≤ maxLen) (w1 : ArgSS w a1 n1 cap1 y1) :
    Calls Try.prog 8 #[.slice a0 l0.length cap0, .slice a1 n1 cap1] w fun e w' => e = .returned (.bool true) ∧ Below w.heap.size w w' := by
  obtain rfl : y1.length = n1 := w1.1
  have hby1 := bulk_len y1
  have hbl0 := bulkPlayer_len l0
  by_cases hl0 : (bulkPlayer l0 : Int) ≤ 1048576
  rotate_left
  · have Z0 := Lib.hid (szR_out hl0 ▸ szPlayerS_any a0 cap0 l0 1048576 w w0 m0 (by omega) (by omega))
    clear w0 w1
    go_enter Try.func8, Try.ntmps8
    go_wp2_with fail
    refine Z0.out.mono ?_
    rintro e wz ⟨rfl, bz⟩
    go_wp2
    go_ret
    exact ⟨rfl, bz⟩
  have Z0 := Lib.hid (szR_in hl0 ▸ szPlayerS_any a0 cap0 l0 1048576 w w0 m0 (by omega) (by omega))
  by_cases hl1 : (bulk y1 : Int) ≤ (1048576 - (bulkPlayer l0 : Int))
  rotate_left
  · have Z1 := Lib.hid (fun W (hb : Below w.heap.size w W) => szR_out hl1 ▸ szIntSS_any a1 y1.length cap1 y1 (1048576 - (bulkPlayer l0 : Int)) W (w1.below hb) (by omega) (by omega))
    clear w0 w1
    go_enter Try.func8, Try.ntmps8
    go_wp2_with fail
    refine Z0.out.mono ?_
    rintro e wz ⟨rfl, bz⟩
    go_wp2_with fail
    refine (Z1.out _ bz).mono ?_
    rintro e wq ⟨rfl, rfl⟩
    go_wp2
    go_ret
    exact ⟨rfl, bz⟩
  have Z1 := Lib.hid (fun W (hb : Below w.heap.size w W) => szR_in hl1 ▸ szIntSS_any a1 y1.length cap1 y1 (1048576 - (bulkPlayer l0 : Int)) W (w1.below hb) (by omega) (by omega))
  have T0 := Lib.hid (fun W h => toPlayerS_any a0 cap0 l0 W h (by omega))
  have Q0 := Lib.hid (fun v1 v2 b1 b2 W h1 h2 => eqPlayerS_same v1 v2 l0 b1 b2 W h1 h2 (by omega))
  have M0 := Lib.hid (fun v b t W h => markPlayerS_in v l0 b t W h (by omega))
  have T1 := Lib.hid (fun W h => toIntSS_walk a1 y1.length cap1 y1 W h (by omega) (fun r hr => by have := bulk_row y1 r hr; omega))
  have Q1 := Lib.hid (fun v1 v2 b1 b2 W h1 h2 => eqIntSS_same v1 v2 y1 b1 b2 W h1 h2 (by omega) (fun r hr => by have := bulk_row y1 r hr; omega))
  have hup1 := upTo_bulk y1
  have M1 := Lib.hid (fun v b t W h u k hk h1 => markIntSS_in v y1 b t W h (by omega) u k hk h1 (fun r hr => by have := bulk_row y1 r hr; omega))
  have CS := Lib.hid (fun v0 b0 v1 b1 W h0 h1 => specBnt v0 l0 b0 W h0 (by omega) (fun k hk => by have := bulkPlayer_row l0 k hk; omega) v1 y1 b1 h1 (by omega) (fun k hk => by have := bulk_row y1 k hk; omega))
  have CI := Lib.hid (fun v0 b0 v1 b1 W h0 h1 => implBnt v0 l0 b0 W h0 (by omega) (fun k hk => by have := bulkPlayer_row l0 k hk; omega) v1 y1 b1 h1 (by omega) (fun k hk => by have := bulk_row y1 k hk; omega))
  have hzs : (bestNight l0 y1).1.length ≤ 2000000 := (by have := (best_size l0 y1).1; omega)
  have hrs : ∀ k (h : k < (bestNight l0 y1).1.length), (bestNight l0 y1).1[k].length ≤ 2000000 := (fun k h => by have := (best_size l0 y1).2 k h; omega)
  have hup : 1 + upTo (bestNight l0 y1).1 (bestNight l0 y1).1.length ≤ 2000000 := best_up l0 y1
  generalize bestNight l0 y1 = rr at CS CI hzs hrs hup
  obtain ⟨r, rb⟩ := rr
  unfold RowsB at CS CI
  dsimp only at CS CI hzs hrs hup
  go_enter Try.func8, Try.ntmps8
  go_wp2_with fail
  refine Z0.out.mono ?_
  rintro e wz ⟨rfl, bz⟩
  have z0_ := bz.size
  have KF := Lib.hid (show ∀ W, Below (wz).heap.size wz W → ArgPlayer W a0 l0 ∧ ArgSS W a1 y1.length cap1 y1 ∧ Below w.heap.size w W from fun W hb => ⟨(w0.below bz).below hb, (w1.below bz).below hb, bz.trans (hb.mono bz.size)⟩)
  have S := Lib.hid (Below.refl (wz).heap.size wz)
  clear w0 w1
  clear Z0
  go_wp2_with fail
  refine (Z1.out _ bz).mono ?_
  rintro e wq ⟨rfl, rfl⟩
  clear Z1
  go_wp2_with fail
  refine (T0.out _ (KF.out _ S.out).1).mono ?_
  rintro e w1_ ⟨v_s0, rfl, o_, b_⟩
  have z1_ := b_.size
  try simp only [World.size_alloc] at z1_
  try simp only [World.size_drew] at z1_
  have S := Lib.hid (S.out.trans (b_.mono S.out.size))
  have O_s0 := Lib.hid o_
  have L_s0 := fun k hk => o_.lt k hk
  try simp only [World.size_alloc] at L_s0
  try simp only [World.size_drew] at L_s0
  clear o_ b_
  go_wp2_with fail
  refine (T1.out _ (KF.out _ S.out).2.1).mono ?_
  rintro e w2_ ⟨v_s1, rfl, o_, b_⟩
  have z2_ := b_.size
  try simp only [World.size_alloc] at z2_
  try simp only [World.size_drew] at z2_
  have S := Lib.hid (S.out.trans (b_.mono S.out.size))
  have O_s0 := Lib.hid (O_s0.out.below b_)
  have O_s1 := Lib.hid o_
  have L_s1 := fun k hk => o_.lt k hk
  try simp only [World.size_alloc] at L_s1
  try simp only [World.size_drew] at L_s1
  clear o_ b_
  go_wp2_with fail
  refine (CS.out _ _ _ _ _ O_s0.out O_s1.out).mono ?_
  rintro e w3_ ⟨v_w, rfl, o_, b_⟩
  have z3_ := b_.size
  try simp only [World.size_alloc] at z3_
  try simp only [World.size_drew] at z3_
  have S := Lib.hid (S.out.trans (b_.mono S.out.size))
  have O_s0 := Lib.hid (O_s0.out.below b_)
  have O_s1 := Lib.hid (O_s1.out.below b_)
  have Z_w := Lib.hid o_
  have C_w := Lib.hid (Below.refl w3_.heap.size w3_)
  clear o_ b_
  go_wp2_with fail
  refine (T0.out _ (KF.out _ S.out).1).mono ?_
  rintro e w4_ ⟨v_x0, rfl, o_, b_⟩
  obtain ⟨A_x0, c_x0, rfl⟩ := o_.slice
  have z4_ := b_.size
  try simp only [World.size_alloc] at z4_
  try simp only [World.size_drew] at z4_
  have C_w := Lib.hid (C_w.out.trans (b_.mono C_w.out.size))
  have S := Lib.hid (S.out.trans (b_.mono S.out.size))
  have O_x0 := Lib.hid o_
  have L_x0 := fun k hk => o_.lt k hk
  try simp only [World.size_alloc] at L_x0
  try simp only [World.size_drew] at L_x0
  have B_x0 := Lib.hid o_.bound
  clear o_ b_
  go_wp2_with fail
  refine (T1.out _ (KF.out _ S.out).2.1).mono ?_
  rintro e w5_ ⟨v_x1, rfl, o_, b_⟩
  obtain ⟨A_x1, c_x1, rfl⟩ := o_.slice
  have z5_ := b_.size
  try simp only [World.size_alloc] at z5_
  try simp only [World.size_drew] at z5_
  have C_w := Lib.hid (C_w.out.trans (b_.mono C_w.out.size))
  have S := Lib.hid (S.out.trans (b_.mono S.out.size))
  have O_x0 := Lib.hid (O_x0.out.below b_)
  have B_x0 := Lib.hid (B_x0.out.below b_)
  have O_x1 := Lib.hid o_
  have L_x1 := fun k hk => o_.lt k hk
  try simp only [World.size_alloc] at L_x1
  try simp only [World.size_drew] at L_x1
  have B_x1 := Lib.hid o_.bound
  clear o_ b_
  go_wp2_with fail
  refine (CI.out _ _ _ _ _ O_x0.out O_x1.out).mono ?_
  rintro e w6_ ⟨v_g, rfl, o_, b_⟩
  have z6_ := b_.size
  try simp only [World.size_alloc] at z6_
  try simp only [World.size_drew] at z6_
  have C_w := Lib.hid (C_w.out.trans (b_.mono C_w.out.size))
  have S := Lib.hid (S.out.trans (b_.mono S.out.size))
  have O_x0 := Lib.hid (O_x0.out.below b_)
  have O_x1 := Lib.hid (O_x1.out.below b_)
  have B_x1 := Lib.hid (B_x1.out.below b_)
  have B_x0 := Lib.hid (B_x0.out.below b_)
  have Z_g := Lib.hid o_
  have C_g := Lib.hid (Below.refl w6_.heap.size w6_)
  clear o_ b_
  go_wp2_with fail
  refine (eqIntSS_same _ _ _ _ _ _ (Z_g.out.below C_g.out) (Z_w.out.below C_w.out) hzs hrs).mono ?_
  rintro e w7_ ⟨rfl, b_⟩
  have z7_ := b_.size
  try simp only [World.size_alloc] at z7_
  try simp only [World.size_drew] at z7_
  have C_w := Lib.hid (C_w.out.trans (b_.mono C_w.out.size))
  have C_g := Lib.hid (C_g.out.trans (b_.mono C_g.out.size))
  have S := Lib.hid (S.out.trans (b_.mono S.out.size))
  have O_x0 := Lib.hid (O_x0.out.below b_)
  have O_x1 := Lib.hid (O_x1.out.below b_)
  have B_x1 := Lib.hid (B_x1.out.below b_)
  have B_x0 := Lib.hid (B_x0.out.below b_)
  clear b_
  go_wp2_with fail
  refine (T0.out _ (KF.out _ S.out).1).mono ?_
  rintro e w8_ ⟨v_t0, rfl, o_, b_⟩
  have z8_ := b_.size
  try simp only [World.size_alloc] at z8_
  try simp only [World.size_drew] at z8_
  have C_w := Lib.hid (C_w.out.trans (b_.mono C_w.out.size))
  have C_g := Lib.hid (C_g.out.trans (b_.mono C_g.out.size))
  have S := Lib.hid (S.out.trans (b_.mono S.out.size))
  have O_x0 := Lib.hid (O_x0.out.below b_)
  have O_x1 := Lib.hid (O_x1.out.below b_)
  have B_x1 := Lib.hid (B_x1.out.below b_)
  have B_x0 := Lib.hid (B_x0.out.below b_)
  have O_t0 := Lib.hid o_
  have L_t0 := fun k hk => o_.lt k hk
  try simp only [World.size_alloc] at L_t0
  try simp only [World.size_drew] at L_t0
  clear o_ b_
  go_wp2_with fail
  refine (Q0.out _ _ _ _ _ O_x0.out O_t0.out).mono ?_
  rintro e w9_ ⟨rfl, b_⟩
  have z9_ := b_.size
  try simp only [World.size_alloc] at z9_
  try simp only [World.size_drew] at z9_
  have C_w := Lib.hid (C_w.out.trans (b_.mono C_w.out.size))
  have C_g := Lib.hid (C_g.out.trans (b_.mono C_g.out.size))
  have S := Lib.hid (S.out.trans (b_.mono S.out.size))
  have O_x0 := Lib.hid (O_x0.out.below b_)
  have O_x1 := Lib.hid (O_x1.out.below b_)
  have O_t0 := Lib.hid (O_t0.out.below b_)
  have B_x1 := Lib.hid (B_x1.out.below b_)
  have B_x0 := Lib.hid (B_x0.out.below b_)
  clear b_
  go_wp2_with fail
  refine (T1.out _ (KF.out _ S.out).2.1).mono ?_
  rintro e w10_ ⟨v_t1, rfl, o_, b_⟩
  have z10_ := b_.size
  try simp only [World.size_alloc] at z10_
  try simp only [World.size_drew] at z10_
  have C_w := Lib.hid (C_w.out.trans (b_.mono C_w.out.size))
  have C_g := Lib.hid (C_g.out.trans (b_.mono C_g.out.size))
  have S := Lib.hid (S.out.trans (b_.mono S.out.size))
  have O_x0 := Lib.hid (O_x0.out.below b_)
  have O_x1 := Lib.hid (O_x1.out.below b_)
  have B_x1 := Lib.hid (B_x1.out.below b_)
  have B_x0 := Lib.hid (B_x0.out.below b_)
  have O_t1 := Lib.hid o_
  have L_t1 := fun k hk => o_.lt k hk
  try simp only [World.size_alloc] at L_t1
  try simp only [World.size_drew] at L_t1
  clear o_ b_
  go_wp2_with fail
  refine (Q1.out _ _ _ _ _ O_x1.out O_t1.out).mono ?_
  rintro e w11_ ⟨rfl, b_⟩
  have z11_ := b_.size
  try simp only [World.size_alloc] at z11_
  try simp only [World.size_drew] at z11_
  have C_w := Lib.hid (C_w.out.trans (b_.mono C_w.out.size))
  have C_g := Lib.hid (C_g.out.trans (b_.mono C_g.out.size))
  have S := Lib.hid (S.out.trans (b_.mono S.out.size))
  have O_x0 := Lib.hid (O_x0.out.below b_)
  have O_x1 := Lib.hid (O_x1.out.below b_)
  have O_t1 := Lib.hid (O_t1.out.below b_)
  have B_x1 := Lib.hid (B_x1.out.below b_)
  have B_x0 := Lib.hid (B_x0.out.below b_)
  clear b_
  go_wp2_with fail
  refine (M0.out _ _ _ _ B_x0.out (1) _ (by first | omega | (push_cast; omega)) (by omega)).mono ?_
  rintro e w12_ ⟨rfl, g_⟩
  have z12_ := g_.size
  try simp only [World.size_alloc] at z12_
  try simp only [World.size_drew] at z12_
  have C_w := Lib.hid (g_.below C_w.out C_w.out.size (fun k hk => by have := hk.1; omega))
  have Z_g := Lib.hid ((Z_g.out.below C_g.out).olderIn g_ (fun k hk => by have := hk.2; omega))
  have C_g := Lib.hid (Below.refl w12_.heap.size w12_)
  have S := Lib.hid (g_.below S.out S.out.size (fun k hk => by have := hk.1; have := S.out.size; omega))
  have O_x1 := Lib.hid (O_x1.out.in g_ (fun k hk => by have := hk.2; omega))
  have B_x1 := Lib.hid (B_x1.out.in g_ (fun k hk => by have := hk.2; omega))
  clear g_
  go_wp2_with fail
  refine (M1.out _ _ _ _ B_x1.out (1 + bulkPlayer l0) _ (by first | omega | (push_cast; omega)) (by omega)).mono ?_
  rintro e w13_ ⟨rfl, g_⟩
  have z13_ := g_.size
  try simp only [World.size_alloc] at z13_
  try simp only [World.size_drew] at z13_
  have C_w := Lib.hid (g_.below C_w.out C_w.out.size (fun k hk => by have := hk.1; omega))
  have Z_g := Lib.hid ((Z_g.out.below C_g.out).olderIn g_ (fun k hk => by have := hk.2; omega))
  have C_g := Lib.hid (Below.refl w13_.heap.size w13_)
  have S := Lib.hid (g_.below S.out S.out.size (fun k hk => by have := hk.1; have := S.out.size; omega))
  clear g_
  go_wp2_with fail
  refine (eqIntSS_same _ _ _ _ _ _ (Z_g.out.below C_g.out) (Z_w.out.below C_w.out) hzs hrs).mono ?_
  rintro e w14_ ⟨rfl, b_⟩
  have z14_ := b_.size
  try simp only [World.size_alloc] at z14_
  try simp only [World.size_drew] at z14_
  have C_w := Lib.hid (C_w.out.trans (b_.mono C_w.out.size))
  have C_g := Lib.hid (C_g.out.trans (b_.mono C_g.out.size))
  have S := Lib.hid (S.out.trans (b_.mono S.out.size))
  clear b_
  go_wp2_with fail
  refine (markIntSS_at _ _ _ _ (Z_g.out.below C_g.out) (by have := C_g.out.size; omega) hzs 1 _ (by rfl) hup).mono ?_
  rintro e w15_ ⟨rfl, o_, b_⟩
  have z15_ := C_g.out.size
  have S := Lib.hid (S.out.trans (b_.mono (by omega)))
  have C_w := Lib.hid (C_w.out.trans (b_.mono (by omega)))
  have z15_b := S.out.size
  have Z_g := Lib.hid o_
  have C_g := Lib.hid (Below.refl w15_.heap.size w15_)
  clear o_ b_
  go_wp2_with fail
  refine (heldIntSS_any _ _ _ _ 1 (Z_g.out.below C_g.out) hzs hup).mono ?_
  rintro e w16_ ⟨rfl, b_⟩
  have z16_ := b_.size
  try simp only [World.size_alloc] at z16_
  try simp only [World.size_drew] at z16_
  have C_w := Lib.hid (C_w.out.trans (b_.mono C_w.out.size))
  have C_g := Lib.hid (C_g.out.trans (b_.mono C_g.out.size))
  have S := Lib.hid (S.out.trans (b_.mono S.out.size))
  clear b_
  go_wp2_with fail
  refine (T0.out _ (KF.out _ S.out).1).mono ?_
  rintro e w17_ ⟨v_h0, rfl, o_, b_⟩
  have z17_ := b_.size
  try simp only [World.size_alloc] at z17_
  try simp only [World.size_drew] at z17_
  have C_w := Lib.hid (C_w.out.trans (b_.mono C_w.out.size))
  have C_g := Lib.hid (C_g.out.trans (b_.mono C_g.out.size))
  have S := Lib.hid (S.out.trans (b_.mono S.out.size))
  have O_h0 := Lib.hid o_
  have L_h0 := fun k hk => o_.lt k hk
  try simp only [World.size_alloc] at L_h0
  try simp only [World.size_drew] at L_h0
  clear o_ b_
  go_wp2_with fail
  refine (T1.out _ (KF.out _ S.out).2.1).mono ?_
  rintro e w18_ ⟨v_h1, rfl, o_, b_⟩
  have z18_ := b_.size
  try simp only [World.size_alloc] at z18_
  try simp only [World.size_drew] at z18_
  have C_w := Lib.hid (C_w.out.trans (b_.mono C_w.out.size))
  have C_g := Lib.hid (C_g.out.trans (b_.mono C_g.out.size))
  have S := Lib.hid (S.out.trans (b_.mono S.out.size))
  have O_h0 := Lib.hid (O_h0.out.below b_)
  have O_h1 := Lib.hid o_
  have L_h1 := fun k hk => o_.lt k hk
  try simp only [World.size_alloc] at L_h1
  try simp only [World.size_drew] at L_h1
  clear o_ b_
  go_wp2_with fail
  refine (CI.out _ _ _ _ _ O_h0.out O_h1.out).mono ?_
  rintro e w19_ ⟨v_q, rfl, o_, b_⟩
  have z19_ := b_.size
  try simp only [World.size_alloc] at z19_
  try simp only [World.size_drew] at z19_
  have C_w := Lib.hid (C_w.out.trans (b_.mono C_w.out.size))
  have C_g := Lib.hid (C_g.out.trans (b_.mono C_g.out.size))
  have S := Lib.hid (S.out.trans (b_.mono S.out.size))
  have O_h0 := Lib.hid (O_h0.out.below b_)
  have O_h1 := Lib.hid (O_h1.out.below b_)
  have Z_q := Lib.hid o_
  have C_q := Lib.hid (Below.refl w19_.heap.size w19_)
  clear o_ b_
  go_wp2_with fail
  refine (eqIntSS_same _ _ _ _ _ _ (Z_q.out.below C_q.out) (Z_w.out.below C_w.out) hzs hrs).mono ?_
  rintro e w20_ ⟨rfl, b_⟩
  have z20_ := b_.size
  try simp only [World.size_alloc] at z20_
  try simp only [World.size_drew] at z20_
  have C_w := Lib.hid (C_w.out.trans (b_.mono C_w.out.size))
  have C_g := Lib.hid (C_g.out.trans (b_.mono C_g.out.size))
  have C_q := Lib.hid (C_q.out.trans (b_.mono C_q.out.size))
  have S := Lib.hid (S.out.trans (b_.mono S.out.size))
  clear b_
  go_wp2_with fail
  refine (heldIntSS_any _ _ _ _ 1 (Z_g.out.below C_g.out) hzs hup).mono ?_
  rintro e w21_ ⟨rfl, b_⟩
  have z21_ := b_.size
  try simp only [World.size_alloc] at z21_
  try simp only [World.size_drew] at z21_
  have C_g := Lib.hid (C_g.out.trans (b_.mono C_g.out.size))
  have S := Lib.hid (S.out.trans (b_.mono S.out.size))
  clear b_
  go_wp2
  go_ret
  exact ⟨rfl, (KF.out _ S.out).2.2⟩
end Go.Proofs.Ytanlfkkmnnjpeaa
