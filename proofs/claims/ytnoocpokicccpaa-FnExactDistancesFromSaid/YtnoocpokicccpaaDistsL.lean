/- The law FnExactDistancesFrom, walked over the contracts of both functions and of those that copy, compare, mark and look. No condition. -/
import Derived.Test.YtnoocpokicccpaaDistsI
import Derived.Test.YtnoocpokicccpaaArg
namespace Go.Proofs.Ytnoocpokicccpaa
open Go.RowKit

set_option maxRecDepth 100000 in
set_option maxHeartbeats 1600000 in
theorem FnExactDistancesFrom_walk (J : Int) (a : Option Addr) (cap : Nat) (ls : List Lb) (i : Int) (w : World) (ha : ArgL w a ls) (hm : ls.length ≤ maxLen) (_ : (Lit.int .i64 i).wf = true) :
    Calls Try.prog 6 #[.agg #[.int .i64 J, .slice a ls.length cap], .int .i64 i] w fun e w' => e = .returned (.bool true) ∧ Below w.heap.size w w' := by
  unfold maxLen at hm
  by_cases hl : ls.length ≤ 1048576
  · have Z := Lib.hid (fun W => szBody_fit J a ls.length cap W hl)
    have T := Lib.hid (fun W h => toBody_walk J a cap ls W h hl)
    have CS := Lib.hid (fun v b W h => specDists J i v ls b W h)
    have CI := Lib.hid (fun v b W h => implDists J i v ls b W h (by omega))
    have CE := Lib.hid (fun v1 v2 b1 b2 W h1 h2 => eqBody_same J v1 v2 ls b1 b2 W h1 h2 (by omega))
    have CM := Lib.hid (fun v b W h => markBody_any J v ls b W h (by omega) 1 (by omega))
    have hzs : (distsFrom J i ls).length ≤ 2000000 := Nat.le_trans (distsFrom_len J i ls) (by omega)
    have S0 := Lib.hid ((stay_new (J := J) (cap := cap) ha 37).alloc (.cells #[.int .i64 J, .slice a ls.length cap] 37))
    have HA := Lib.hid ha
    unfold bodyV at T CS CI CE CM
    clear ha
    generalize distsFrom J i ls = zs at CS CI hzs
    go_enter Try.func6, Try.ntmps6
    go_wp2_with (go_at_call 19; refine (Z.out _).mono ?_; rintro e w' ⟨rfl, rfl⟩)
    refine (T.out _ S0.out.2.1).mono ?_
    rintro e w1 ⟨va, rfl, oa, b1⟩
    obtain ⟨A1, c1, rfl⟩ := oa.slice
    have S1 := Lib.hid (S0.out.below b1)
    clear b1 S0
    go_wp2_with fail
    refine (CS.out _ _ _ oa).mono ?_
    rintro e w2 ⟨v1, rfl, o1, b2⟩
    have S2 := Lib.hid (S1.out.below b2)
    have z1 := S1.out.2.2.2
    have z2 := b2.size
    have l1 := fun k hk => (o1.lt k hk)
    clear b2 oa S1
    obtain ⟨x0, x1⟩ := S2.out.1
    go_wp2_with fail
    refine (T.out _ S2.out.2.1).mono ?_
    rintro e w3 ⟨v3, rfl, o3, b3⟩
    obtain ⟨A3, c3, rfl⟩ := o3.slice
    have S3 := Lib.hid (S2.out.below b3)
    have p1 := o1.below b3
    have z3 := b3.size
    have l3 := fun k hk => (o3.lt k hk)
    clear b3 x0 x1 o1 S2
    go_wp2_with fail
    have S4 := Lib.hid (S3.out.alloc (.cells #[.int .i64 J, .slice A3 ls.length c3] 26))
    refine (CI.out _ _ _ (o3.alloc _)).mono ?_
    rintro e w5 ⟨vg, rfl, og, b5⟩
    have S5 := Lib.hid (S4.out.below b5)
    have y5 := (boxAt_any w3 26 J (.slice A3 ls.length c3)).below b5
    have q3 := (o3.alloc (.cells #[.int .i64 J, .slice A3 ls.length c3] 26)).below b5
    have q1 := (p1.alloc (.cells #[.int .i64 J, .slice A3 ls.length c3] 26)).below b5
    have lg := fun k hk => (og.lt k hk)
    have z5 := b5.size
    simp only [World.size_alloc] at lg z5
    clear b5 o3 p1 S3 S4
    go_wp2_with fail
    refine (eqIntS_same vg v1 _ _ _ _ og q1 hzs).mono ?_
    rintro e w6 ⟨rfl, b6⟩
    have S6 := Lib.hid (S5.out.below b6)
    have y6 := y5.below b6
    have Y6 := Lib.hid y6
    have q6 := Lib.hid (q3.below b6)
    have r1 := q1.below b6
    have rg := og.below b6
    have z6 := b6.size
    clear b6 y5 q3 q1 og S5
    obtain ⟨x0, x1⟩ := S6.out.1
    obtain ⟨y0, y1⟩ := y6
    have R1 := Lib.hid r1
    have RG := Lib.hid rg
    clear r1 rg
    go_wp2_with fail
    go_region_held3 (fun w' => w'.cell? ⟨w.heap.size, 0, none⟩ = some (.int .i64 J) ∧ w'.cell? ⟨w.heap.size, 1, none⟩ = some (.slice a ls.length cap) ∧ w'.cell? ⟨w3.heap.size, 0, none⟩ = some (.int .i64 J) ∧ w'.cell? ⟨w3.heap.size, 1, none⟩ = some (.slice A3 ls.length c3))
      (first | exact ⟨x0, x1, y0, y1⟩ | exact K6.out | exact K7.out) (first | (go_at_call 21; refine (T.out _ ?_).mono ?_; (exact S6.out.drew.2.1); rintro e w7 ⟨v6, rfl, o6, b7⟩; have S7 := Lib.hid (S6.out.drew.below b7); have Y7 := Lib.hid (BoxAt.below (by exact Y6.out) b7); have K6 := Lib.hid (And.intro S7.out.1.1 (And.intro S7.out.1.2 Y7.out)); have P7 := Lib.hid (OwnL.below (by exact q6.out) b7); have R17 := Lib.hid (OwnI.below (by exact R1.out) b7); have RG7 := Lib.hid (OwnI.below (by exact RG.out) b7); have z7 := b7.size) | (go_at_call 23; refine (CE.out _ _ _ _ _ P7.out o6).mono ?_; rintro e w8 ⟨rfl, b8⟩; have S8 := Lib.hid (S7.out.below b8); have K7 := Lib.hid (And.intro S8.out.1.1 (And.intro S8.out.1.2 (Y7.out.below b8)))))
    have y8 := Y7.out.below b8
    have q8 := P7.out.below b8
    have r8 := R17.out.below b8
    have g8 := RG7.out.below b8
    have z8 := b8.size
    simp only [World.size_drew] at z7
    have n1 := apart_of (v2 := .slice A3 ls.length c3) (fun k hk => (l1 k hk).2) (fun k hk => (l3 k hk).1)
    have n2 : vg.ownBlock = none ∨ vg.ownBlock ≠ (Value.slice A3 ls.length c3).ownBlock := sep_of (fun k hk e => by have := (lg k hk).1; have := (l3 k e).2; omega)
    have n3 := apart_of (fun k hk => (l1 k hk).2) (fun k hk => (show w2.heap.size ≤ k by have := (lg k hk).1; omega))
    clear b8 o6 K6 K7 S6 S7 Y6 Y7 q6 P7 R1 RG R17 RG7 x0 x1 y0 y1
    obtain ⟨y0, y1⟩ := id y8
    go_wp2_with fail
    refine (CM.out _ _ _ q8).mono ?_
    rintro e w9 ⟨rfl, -, g9⟩
    have S9 := Lib.hid (S8.out.grown HA.out g9 (fun k hk => by have := (l3 k hk).1; omega))
    have r9 := r8.kept g9 n1
    have h9 := g8.kept g9 n2
    have z9 := g9.size
    clear q8 y8 y0 y1 r8 g8 g9 S8
    go_wp2_with fail
    refine (eqIntS_same vg v1 _ _ _ _ h9 r9 hzs).mono ?_
    rintro e w10 ⟨rfl, b10⟩
    have S10 := Lib.hid (S9.out.below b10)
    have r10 := r9.below b10
    have h10 := h9.below b10
    have z10 := b10.size
    clear b10 r9 h9 S9
    go_wp2_with fail
    refine (markIntS_any vg _ _ _ h10 hzs 1 (by omega)).mono ?_
    rintro e w11 ⟨rfl, o11, g11⟩
    have S11 := Lib.hid (S10.out.grown HA.out g11 (fun k hk => by have := (lg k hk).1; omega))
    have r11 := r10.kept g11 n3
    clear h10 r10 g11 S10
    go_wp2_with fail
    refine (heldIntS_any vg _ _ _ 1 o11 hzs (by omega)).mono ?_
    rintro e w12 ⟨rfl, b12⟩
    have S12 := Lib.hid (S11.out.below b12)
    have r12 := r11.below b12
    have o12 := o11.below b12
    clear b12 r11 o11 S11
    obtain ⟨x0, x1⟩ := S12.out.1
    go_wp2_with fail
    refine (T.out _ S12.out.2.1).mono ?_
    rintro e w13 ⟨vh, rfl, oh, b13⟩
    obtain ⟨A5, c5, rfl⟩ := oh.slice
    have S13 := Lib.hid (S12.out.below b13)
    have r13 := r12.below b13
    have o13 := o12.below b13
    clear b13 r12 o12 S12 x0 x1
    go_wp2_with fail
    refine (CI.out _ _ _ oh).mono ?_
    rintro e w14 ⟨vq, rfl, oq, b14⟩
    have S14 := Lib.hid (S13.out.below b14)
    have r14 := r13.below b14
    have o14 := o13.below b14
    clear b14 r13 o13 S13 oh
    go_wp2_with fail
    refine (eqIntS_same vq v1 _ _ _ _ oq r14 hzs).mono ?_
    rintro e w15 ⟨rfl, b15⟩
    have S15 := Lib.hid (S14.out.below b15)
    have o15 := o14.below b15
    clear b15 r14 o14 S14 oq
    go_wp2_with fail
    refine (heldIntS_any vg _ _ _ 1 o15 hzs (by omega)).mono ?_
    rintro e w16 ⟨rfl, b16⟩
    have S16 := Lib.hid (S15.out.below b16)
    clear b16 o15 S15
    go_wp2
    go_ret
    exact ⟨rfl, S16.out.2.2.1⟩
  · have Z := Lib.hid (fun W => szBody_big J a ls.length cap W (by omega) (by omega))
    go_enter Try.func6, Try.ntmps6
    go_wp2_with (go_at_call 19; refine (Z.out _).mono ?_; rintro e w' ⟨rfl, rfl⟩)
    go_ret
    exact ⟨rfl, ((Below.refl _ _).alloc (Nat.le_refl _) _).alloc (by simp) _⟩
end Go.Proofs.Ytnoocpokicccpaa
