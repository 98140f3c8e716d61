/- The law FnExactAddLimb, walked over the contracts of both functions and of those that copy, compare, mark and look. No condition. -/
import Derived.Test.YtgmcinnajhbgfaaAddW
import Derived.Test.YtgmcinnajhbgfaaArg
namespace Go.Proofs.Ytgmcinnajhbgfaa
open Go.RowKit

theorem addL_len (J j n : Int) (ls : List Lb) : (addL J j n ls).length ≤ ls.length + 1 := by
  unfold addL more
  split <;> simp

set_option maxRecDepth 100000 in
set_option maxHeartbeats 3200000 in
theorem FnExactAddLimb_walk (J : Int) (a : Option Addr) (cap : Nat) (ls : List Lb) (j n : Int) (w : World) (ha : ArgL w a ls) (hm : ls.length ≤ maxLen) (_ : (Lit.int .i64 j).wf = true) (_ : (Lit.int .i64 n).wf = true) :
    Calls Try.prog 8 #[.agg #[.int .i64 J, .slice a ls.length cap], .int .i64 j, .int .i64 n] w fun e w' => e = .returned (.bool true) ∧ Below w.heap.size w w' := by
  unfold maxLen at hm
  by_cases hl : ls.length ≤ 1048576
  · have Z := Lib.hid (fun W => szBody_fit J a ls.length cap W hl)
    have T := Lib.hid (fun W h => toBody_walk J a cap ls W h hl)
    have CS := Lib.hid (fun v b W h => specAdd J j n v ls b W h (by omega))
    have CI := Lib.hid (fun v b W h => implAdd J j n v ls b W h (by omega))
    have CE := Lib.hid (fun v1 v2 b1 b2 W h1 h2 => eqBody_same J v1 v2 ls b1 b2 W h1 h2 (by omega))
    have CM := Lib.hid (fun v b W h => markBody_any J v ls b W h (by omega) 1 (by omega))
    have hzs : (addL J j n ls).length ≤ 2000000 := Nat.le_trans (addL_len J j n ls) (by omega)
    have S0 := Lib.hid ((stay_new (J := J) (cap := cap) ha 40).alloc (.cells #[.int .i64 J, .slice a ls.length cap] 40))
    have HA := Lib.hid ha
    clear ha
    generalize addL J j n ls = zs at CS CI hzs
    generalize addJ J j n ls = Jz at CS CI
    generalize addOk J j n ls = r at CS CI
    have CZ := Lib.hid (fun v1 v2 b1 b2 W h1 h2 => eqBody_same Jz v1 v2 zs b1 b2 W h1 h2 hzs)
    have CN := Lib.hid (fun v b W h => markBody_any Jz v zs b W h hzs 1 (by omega))
    have CH := Lib.hid (fun v b W h => heldBody_any Jz v zs.length b W 1 h hzs (by omega))
    unfold bodyV at T CS CI CE CM CZ CN CH
    have hr : (r != r) = false := by simp
    go_enter Try.func8, Try.ntmps8
    go_wp2_with (go_at_call 20; refine (Z.out _).mono ?_; rintro e w' ⟨rfl, rfl⟩)
    refine (T.out _ S0.out.2.1).mono ?_
    rintro e w1 ⟨va, rfl, oa, b1⟩
    obtain ⟨A1, c1, rfl⟩ := oa.slice
    have S1 := Lib.hid (S0.out.below b1)
    clear b1 S0
    go_wp2_with fail
    refine (CS.out _ _ _ oa).mono ?_
    rintro e w2 ⟨v1, rfl, o1, b2⟩
    obtain ⟨Az, cz, rfl⟩ := o1.slice
    have S2 := Lib.hid ((S1.out.below b2).alloc (.cells #[.int .i64 Jz, .slice Az zs.length cz] 26))
    have Y8 := Lib.hid (boxAt_any w2 26 Jz (.slice Az zs.length cz))
    have P1 := Lib.hid (o1.alloc (.cells #[.int .i64 Jz, .slice Az zs.length cz] 26))
    have l1 := fun k hk => (o1.lt k hk)
    have z1 := S1.out.2.2.2
    have z2 := b2.size
    clear b2 oa o1 S1
    obtain ⟨x0, x1⟩ := S2.out.1
    unfold bodyV
    go_wp2_with fail
    refine (T.out _ S2.out.2.1).mono ?_
    rintro e w3 ⟨v3, rfl, o3, b3⟩
    obtain ⟨A3, c3, rfl⟩ := o3.slice
    have S3 := Lib.hid ((S2.out.below b3).alloc (.cells #[.int .i64 J, .slice A3 ls.length c3] 26))
    have Y83 := Lib.hid ((Y8.out.below b3).alloc (.cells #[.int .i64 J, .slice A3 ls.length c3] 26))
    have Y10 := Lib.hid (boxAt_any w3 26 J (.slice A3 ls.length c3))
    have P13 := Lib.hid ((P1.out.below b3).alloc (.cells #[.int .i64 J, .slice A3 ls.length c3] 26))
    have P3 := Lib.hid (o3.alloc (.cells #[.int .i64 J, .slice A3 ls.length c3] 26))
    have l3 := fun k hk => (o3.lt k hk)
    have z3 := b3.size
    simp only [World.size_alloc] at l3 z3
    clear b3 o3 x0 x1 S2 Y8 P1
    go_wp2_with fail
    refine (CI.out _ _ _ P3.out).mono ?_
    rintro e w5 ⟨vg, rfl, og, b5⟩
    obtain ⟨Ag, cg, rfl⟩ := og.slice
    have S5 := Lib.hid ((S3.out.below b5).alloc (.cells #[.int .i64 Jz, .slice Ag zs.length cg] 26))
    have Y85 := Lib.hid ((Y83.out.below b5).alloc (.cells #[.int .i64 Jz, .slice Ag zs.length cg] 26))
    have Y105 := Lib.hid ((Y10.out.below b5).alloc (.cells #[.int .i64 Jz, .slice Ag zs.length cg] 26))
    have Y11 := Lib.hid (boxAt_any w5 26 Jz (.slice Ag zs.length cg))
    have P15 := Lib.hid ((P13.out.below b5).alloc (.cells #[.int .i64 Jz, .slice Ag zs.length cg] 26))
    have P35 := Lib.hid ((P3.out.below b5).alloc (.cells #[.int .i64 Jz, .slice Ag zs.length cg] 26))
    have PG := Lib.hid (og.alloc (.cells #[.int .i64 Jz, .slice Ag zs.length cg] 26))
    have lg := fun k hk => (og.lt k hk)
    have z5 := b5.size
    simp only [World.size_alloc] at lg z5
    clear b5 og S3 Y83 Y10 P13 P3
    obtain ⟨x0, x1⟩ := Y85.out
    unfold bodyV
    go_wp2_with fail
    refine (CZ.out _ _ _ _ _ PG.out P15.out).mono ?_
    rintro e w7 ⟨rfl, b7⟩
    have S7 := Lib.hid (S5.out.below b7)
    have Y87 := Lib.hid (Y85.out.below b7)
    have Y107 := Lib.hid (Y105.out.below b7)
    have Y117 := Lib.hid (Y11.out.below b7)
    have P17 := Lib.hid (P15.out.below b7)
    have P37 := Lib.hid (P35.out.below b7)
    have PG7 := Lib.hid (PG.out.below b7)
    clear b7 x0 x1 S5 Y85 Y105 Y11 P15 P35 PG
    obtain ⟨x0, x1⟩ := S7.out.1
    obtain ⟨y0, y1⟩ := Y107.out
    go_wp2_with fail
    go_region_held3 (fun w' => w'.cell? ⟨w.heap.size, 0, none⟩ = some (.int .i64 J) ∧ w'.cell? ⟨w.heap.size, 1, none⟩ = some (.slice a ls.length cap) ∧ w'.cell? ⟨w3.heap.size, 0, none⟩ = some (.int .i64 J) ∧ w'.cell? ⟨w3.heap.size, 1, none⟩ = some (.slice A3 ls.length c3))
      (first | exact ⟨x0, x1, y0, y1⟩ | exact K6.out | exact K7.out) (first | (go_at_call 22; refine (T.out _ ?_).mono ?_; (exact S7.out.drew.2.1); rintro e w8 ⟨v6, rfl, o6, b8⟩; have S8 := Lib.hid (S7.out.drew.below b8); have Y108 := Lib.hid (BoxAt.below (by exact Y107.out) b8); have K6 := Lib.hid (And.intro S8.out.1.1 (And.intro S8.out.1.2 Y108.out)); have Y88 := Lib.hid (BoxAt.below (by exact Y87.out) b8); have Y118 := Lib.hid (BoxAt.below (by exact Y117.out) b8); have P38 := Lib.hid (OwnL.below (by exact P37.out) b8); have P18 := Lib.hid (OwnL.below (by exact P17.out) b8); have PG8 := Lib.hid (OwnL.below (by exact PG7.out) b8)) | (go_at_call 23; refine (CE.out _ _ _ _ _ P38.out o6).mono ?_; rintro e w9 ⟨rfl, b9⟩; have S9 := Lib.hid (S8.out.below b9); have Y109 := Lib.hid (Y108.out.below b9); have K7 := Lib.hid (And.intro S9.out.1.1 (And.intro S9.out.1.2 Y109.out))))
    have Y89 := Lib.hid (Y88.out.below b9)
    have Y119 := Lib.hid (Y118.out.below b9)
    have P39 := Lib.hid (P38.out.below b9)
    have P19 := Lib.hid (P18.out.below b9)
    have PG9 := Lib.hid (PG8.out.below b9)
    have n1 := apart_of (v2 := .slice A3 ls.length c3) (fun k hk => (l1 k hk).2) (fun k hk => (show w2.heap.size ≤ k by have := (l3 k hk).1; omega))
    have n2 : (Value.slice Ag zs.length cg).ownBlock = none ∨ (Value.slice Ag zs.length cg).ownBlock ≠ (Value.slice A3 ls.length c3).ownBlock := sep_of (fun k hk e => by have := (lg k hk).1; have := (l3 k e).2; omega)
    have n3 := apart_of (v2 := .slice Ag zs.length cg) (fun k hk => (l1 k hk).2) (fun k hk => (show w2.heap.size ≤ k by have := (lg k hk).1; omega))
    clear b9 b8 o6 K6 K7 S7 S8 Y107 Y108 Y87 Y88 Y117 Y118 P37 P38 P17 P18 PG7 PG8 x0 x1 y0 y1
    obtain ⟨y0, y1⟩ := Y109.out
    go_wp2_with fail
    refine (CM.out _ _ _ P39.out).mono ?_
    rintro e w10 ⟨rfl, -, g10⟩
    have S10 := Lib.hid (S9.out.grown HA.out g10 (fun k hk => by have := (l3 k hk).1; omega))
    have Y810 := Lib.hid (Y89.out.grown g10 (fun e => by have := (l3 _ e.symm).1; omega))
    have Y1110 := Lib.hid (Y119.out.grown g10 (fun e => by have := (l3 _ e.symm).2; omega))
    have P110 := Lib.hid (P19.out.kept g10 n1)
    have PG10 := Lib.hid (PG9.out.kept g10 n2)
    clear g10 y0 y1 S9 Y89 Y109 Y119 P39 P19 PG9
    obtain ⟨x0, x1⟩ := Y810.out
    obtain ⟨y0, y1⟩ := Y1110.out
    go_wp2_with fail
    refine (CZ.out _ _ _ _ _ PG10.out P110.out).mono ?_
    rintro e w11 ⟨rfl, b11⟩
    have S11 := Lib.hid (S10.out.below b11)
    have Y811 := Lib.hid (Y810.out.below b11)
    have Y1111 := Lib.hid (Y1110.out.below b11)
    have P111 := Lib.hid (P110.out.below b11)
    have PG11 := Lib.hid (PG10.out.below b11)
    clear b11 x0 x1 y0 y1 S10 Y810 Y1110 P110 PG10
    obtain ⟨y0, y1⟩ := Y1111.out
    go_wp2_with fail
    refine (CN.out _ _ _ PG11.out).mono ?_
    rintro e w12 ⟨rfl, o12, g12⟩
    have S12 := Lib.hid (S11.out.grown HA.out g12 (fun k hk => by have := (lg k hk).1; omega))
    have Y812 := Lib.hid (Y811.out.grown g12 (fun e => by have := (lg _ e.symm).1; omega))
    have Y1112 := Lib.hid (Y1111.out.grown g12 (fun e => by have := (lg _ e.symm).2; omega))
    have P112 := Lib.hid (P111.out.kept g12 n3)
    have O12 := Lib.hid o12
    clear g12 o12 y0 y1 S11 Y811 Y1111 P111 PG11
    obtain ⟨y0, y1⟩ := Y1112.out
    go_wp2_with fail
    refine (CH.out _ _ _ O12.out).mono ?_
    rintro e w13 ⟨rfl, b13⟩
    have S13 := Lib.hid (S12.out.below b13)
    have Y813 := Lib.hid (Y812.out.below b13)
    have Y1113 := Lib.hid (Y1112.out.below b13)
    have P113 := Lib.hid (P112.out.below b13)
    have O13 := Lib.hid (O12.out.below b13)
    clear b13 y0 y1 S12 Y812 Y1112 P112 O12
    obtain ⟨x0, x1⟩ := S13.out.1
    go_wp2_with fail
    refine (T.out _ S13.out.2.1).mono ?_
    rintro e w14 ⟨vh, rfl, oh, b14⟩
    obtain ⟨A5, c5, rfl⟩ := oh.slice
    have S14 := Lib.hid (S13.out.below b14)
    have Y814 := Lib.hid (Y813.out.below b14)
    have Y1114 := Lib.hid (Y1113.out.below b14)
    have P114 := Lib.hid (P113.out.below b14)
    have O14 := Lib.hid (O13.out.below b14)
    clear b14 x0 x1 S13 Y813 Y1113 P113 O13
    go_wp2_with fail
    refine (CI.out _ _ _ oh).mono ?_
    rintro e w15 ⟨vq, rfl, oq, b15⟩
    obtain ⟨A6, c6, rfl⟩ := oq.slice
    have S15 := Lib.hid ((S14.out.below b15).alloc (.cells #[.int .i64 Jz, .slice A6 zs.length c6] 26))
    have Y815 := Lib.hid ((Y814.out.below b15).alloc (.cells #[.int .i64 Jz, .slice A6 zs.length c6] 26))
    have Y1115 := Lib.hid ((Y1114.out.below b15).alloc (.cells #[.int .i64 Jz, .slice A6 zs.length c6] 26))
    have P115 := Lib.hid ((P114.out.below b15).alloc (.cells #[.int .i64 Jz, .slice A6 zs.length c6] 26))
    have O15 := Lib.hid ((O14.out.below b15).alloc (.cells #[.int .i64 Jz, .slice A6 zs.length c6] 26))
    have PQ := Lib.hid (oq.alloc (.cells #[.int .i64 Jz, .slice A6 zs.length c6] 26))
    clear b15 oh oq S14 Y814 Y1114 P114 O14
    obtain ⟨x0, x1⟩ := Y815.out
    unfold bodyV
    go_wp2_with fail
    refine (CZ.out _ _ _ _ _ PQ.out P115.out).mono ?_
    rintro e w17 ⟨rfl, b17⟩
    have S17 := Lib.hid (S15.out.below b17)
    have Y1117 := Lib.hid (Y1115.out.below b17)
    have O17 := Lib.hid (O15.out.below b17)
    clear b17 x0 x1 S15 Y815 Y1115 P115 PQ O15
    obtain ⟨y0, y1⟩ := Y1117.out
    go_wp2_with fail
    refine (CH.out _ _ _ O17.out).mono ?_
    rintro e w18 ⟨rfl, b18⟩
    have S18 := Lib.hid (S17.out.below b18)
    clear b18 y0 y1 S17 Y1117 O17
    go_wp2
    go_ret
    exact ⟨rfl, S18.out.2.2.1⟩
  · have Z := Lib.hid (fun W => szBody_big J a ls.length cap W (by omega) (by omega))
    go_enter Try.func8, Try.ntmps8
    go_wp2_with (go_at_call 20; refine (Z.out _).mono ?_; rintro e w' ⟨rfl, rfl⟩)
    go_ret
    exact ⟨rfl, ((Below.refl _ _).alloc (Nat.le_refl _) _).alloc (by simp) _⟩
end Go.Proofs.Ytgmcinnajhbgfaa
