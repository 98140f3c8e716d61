/- The law FnExactFullTurn, walked over the contracts of both functions and of those that copy, compare, mark and look (made by gen_law.py). No condition. -/
import Derived.Test.YthijfipjfdmoeaaUnwS
import Derived.Test.YthijfipjfdmoeaaFulI
import Derived.Test.YthijfipjfdmoeaaCrossL
import Derived.Test.YthijfipjfdmoeaaCrossH
namespace Go.Proofs.Ythijfipjfdmoeaa
open Go.RowKit

set_option maxRecDepth 100000 in
set_option maxHeartbeats 3200000 in
theorem FnExactFullTurn_walk (x0 : Int) (x1 : Int) (x2 : Int) (x3 : Bool) (w : World) (_ : (Lit.int .i64 x0).wf = true) (_ : (Lit.int .i64 x1).wf = true) (_ : (Lit.int .i64 x2).wf = true) :
    Calls Try.prog 4 #[.int .i64 x0, .int .i64 x1, .int .i64 x2, .bool x3] w fun e w' => e = .returned (.bool true) ∧ Below w.heap.size w w' := by
  have CS := Lib.hid (fun  W  => specFull x0 x1 x2 x3 W)
  have CI := Lib.hid (fun  W  => implFull x0 x1 x2 x3 W)
  have hzs : (fullTurn x0 x1 x2 x3).1.length ≤ 2000000 := (by have := fullTurn_len x0 x1 x2 x3; omega)
  have KF := Lib.hid (show ∀ W, Below (w).heap.size w W → Below w.heap.size w W from fun W hb => (Below.refl w.heap.size w).trans (hb.mono (by simp <;> omega)))
  have S := Lib.hid (Below.refl (w).heap.size w)
  generalize fullTurn x0 x1 x2 x3 = rr at CS CI hzs
  obtain ⟨r, rb⟩ := rr
  unfold CrossB at CS CI
  dsimp only at CS CI hzs
  go_enter Try.func4, Try.ntmps4
  go_wp2_with fail
  go_wp2_with fail
  refine (CS.out  _ ).mono ?_
  rintro e w1_ ⟨v_w, rfl, o_, b_⟩
  have z1_ := b_.size
  try simp only [World.size_alloc] at z1_
  try simp only [World.size_drew] at z1_
  have S := Lib.hid (S.out.trans (b_.mono S.out.size))
  have O_w := Lib.hid o_
  have L_w := fun k hk => o_.lt k hk
  try simp only [World.size_alloc] at L_w
  try simp only [World.size_drew] at L_w
  clear o_ b_
  go_wp2_with fail
  refine (CI.out  _ ).mono ?_
  rintro e w2_ ⟨v_g, rfl, o_, b_⟩
  have z2_ := b_.size
  try simp only [World.size_alloc] at z2_
  try simp only [World.size_drew] at z2_
  have S := Lib.hid (S.out.trans (b_.mono S.out.size))
  have O_w := Lib.hid (O_w.out.below b_)
  have O_g := Lib.hid o_
  have L_g := fun k hk => o_.lt k hk
  try simp only [World.size_alloc] at L_g
  try simp only [World.size_drew] at L_g
  clear o_ b_
  go_wp2_with fail
  refine (eqCrossS_same _ _ _ _ _ _ O_g.out O_w.out hzs).mono ?_
  rintro e w3_ ⟨rfl, b_⟩
  have z3_ := b_.size
  try simp only [World.size_alloc] at z3_
  try simp only [World.size_drew] at z3_
  have S := Lib.hid (S.out.trans (b_.mono S.out.size))
  have O_w := Lib.hid (O_w.out.below b_)
  have O_g := Lib.hid (O_g.out.below b_)
  clear b_
  go_wp2_with fail
  refine (markCrossS_at _ _ _ _ O_g.out hzs 1 _ (by rfl) (by omega)).mono ?_
  rintro e w4_ ⟨rfl, o_, g_⟩
  have z4_ := g_.size
  try simp only [World.size_alloc] at z4_
  try simp only [World.size_drew] at z4_
  have S := Lib.hid (S.out.grown g_ S.out.size (fun k hk => by have := L_g k hk; have := S.out.size; (try simp only [World.size_alloc] at *); omega))
  have O_w := Lib.hid (O_w.out.kept g_ (sep_of (fun k hk e => by have := L_w k hk; have := L_g k e; omega)))
  have O_g := Lib.hid o_
  clear o_ g_
  go_wp2_with fail
  refine (heldCrossS_any _ _ _ _ 1 O_g.out hzs (by omega)).mono ?_
  rintro e w5_ ⟨rfl, b_⟩
  have z5_ := b_.size
  try simp only [World.size_alloc] at z5_
  try simp only [World.size_drew] at z5_
  have S := Lib.hid (S.out.trans (b_.mono S.out.size))
  have O_w := Lib.hid (O_w.out.below b_)
  have O_g := Lib.hid (O_g.out.below b_)
  clear b_
  go_wp2_with fail
  refine (CI.out  _ ).mono ?_
  rintro e w6_ ⟨v_q, rfl, o_, b_⟩
  have z6_ := b_.size
  try simp only [World.size_alloc] at z6_
  try simp only [World.size_drew] at z6_
  have S := Lib.hid (S.out.trans (b_.mono S.out.size))
  have O_w := Lib.hid (O_w.out.below b_)
  have O_g := Lib.hid (O_g.out.below b_)
  have O_q := Lib.hid o_
  have L_q := fun k hk => o_.lt k hk
  try simp only [World.size_alloc] at L_q
  try simp only [World.size_drew] at L_q
  clear o_ b_
  go_wp2_with fail
  refine (eqCrossS_same _ _ _ _ _ _ O_q.out O_w.out hzs).mono ?_
  rintro e w7_ ⟨rfl, b_⟩
  have z7_ := b_.size
  try simp only [World.size_alloc] at z7_
  try simp only [World.size_drew] at z7_
  have S := Lib.hid (S.out.trans (b_.mono S.out.size))
  have O_w := Lib.hid (O_w.out.below b_)
  have O_g := Lib.hid (O_g.out.below b_)
  have O_q := Lib.hid (O_q.out.below b_)
  clear b_
  go_wp2_with fail
  refine (heldCrossS_any _ _ _ _ 1 O_g.out hzs (by omega)).mono ?_
  rintro e w8_ ⟨rfl, b_⟩
  have z8_ := b_.size
  try simp only [World.size_alloc] at z8_
  try simp only [World.size_drew] at z8_
  have S := Lib.hid (S.out.trans (b_.mono S.out.size))
  have O_g := Lib.hid (O_g.out.below b_)
  clear b_
  go_wp2
  go_ret
  exact ⟨rfl, (KF.out _ S.out)⟩
end Go.Proofs.Ythijfipjfdmoeaa
