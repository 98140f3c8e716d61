/- The contract of spec.TwistTable. Condition: the crossings lie in a row of their own. -/
import Derived.Test.YtokgcchcjaimhaaTwsM
import Derived.Test.YtokgcchcjaimhaaPrsS
import Derived.Test.YtokgcchcjaimhaaMadZ
import Derived.OwnWalk
import Derived.RegionTactic
import Derived.BigRegion
import Derived.StillTailTactics
import Derived.Deep.RegionHeld3
namespace Go.Proofs.Ytokgcchcjaimhaa
set_option linter.unusedVariables false
set_option linter.unusedSimpArgs false
open Go.RowKit

set_option maxRecDepth 100000 in
set_option maxHeartbeats 3200000 in
theorem specTab (n : Int) (v : Value) (ls : List RCross) (b : Nat) (w : World) (h : OwnCross w b v ls) (hl : ls.length ≤ 2000000) :
    Calls Try.prog 28 #[.int .i64 n, v] w (RowsPost w (twistTab n ls)) := by
  have CK := Lib.hid (fun W h => specCrOk n v ls b W h hl)
  have CP := Lib.hid (fun W h => specPairs n v ls b W h hl)
  obtain ⟨A, c, rfl⟩ := h.slice
  have O := Lib.hid h
  clear h
  have E0 := Lib.hid (emptyR w w.heap.size w.heap.size #[] rfl (Nat.le_refl _) rfl)
  have B0 := Lib.hid ((Below.refl w.heap.size w).alloc (Nat.le_refl _) (.cells #[] 29))
  have OA := Lib.hid (O.out.alloc (.cells #[] 29))
  cases hc : crossOk n ls with
  | false =>
    have R := Lib.hid (show twistTab n ls = [] by unfold twistTab; rw [hc]; rfl)
    rw [hc] at CK
    go_enter Try.func28, Try.ntmps28
    go_wp2_with fail
    refine (CK.out _ OA.out).mono ?_
    rintro e w1 ⟨rfl, b1⟩
    have B1 := Lib.hid (B0.out.trans (b1.mono B0.out.size))
    have E1 := Lib.hid (E0.out.below b1)
    clear b1
    go_wp2
    go_ret
    exact ⟨_, rfl, by rw [R.out]; exact E1.out, B1.out⟩
  | true =>
    obtain ⟨i0, hi0, hz0, hz1, hz2⟩ := info_parts info_int
    obtain ⟨hn7, hnn, h40, -⟩ := ok_fits hc
    obtain ⟨N, hN⟩ : ∃ N : Nat, n = (N : Int) := ⟨n.toNat, hnn.symm⟩
    subst hN
    rw [Int.toNat_natCast] at hn7
    have F := crossFacts hc
    have hpl := F.pairLen
    have R := Lib.hid (show twistTab (N : Int) ls = tabTo (N : Int) ls ls.length by unfold twistTab; rw [if_pos hc])
    have SQ := Lib.hid (show ∀ k, k ≤ ls.length → Square N (tabTo (N : Int) ls k) from fun k hk => by have := tab_square hc k hk; rwa [Int.toNat_natCast] at this)
    have DU := Lib.hid (show ∀ k, k < ls.length → Duo N ((pairsOf (N : Int) ls).getD k []) from fun k hk => by have := duo_at hc hk; rwa [Int.toNat_natCast] at this)
    have SM := Lib.hid (show ∀ k, k ≤ ls.length → ∀ i j, i < N → j < N → -(k : Int) ≤ ent (tabTo (N : Int) ls k) i j ∧ ent (tabTo (N : Int) ls k) i j ≤ (k : Int) from fun k hk i j hi hj => tab_small hc (by rw [Int.toNat_natCast]; exact hi) (by rw [Int.toNat_natCast]; exact hj) k hk)
    have ST := Lib.hid (show ∀ k, tabTo (N : Int) ls (k + 1) = tabStep (tabTo (N : Int) ls k) ((pairsOf (N : Int) ls).getD k []) (sgn (ls.getD k RCross.zero)) from fun k => rfl)
    have Z0 := Lib.hid (show tabTo (N : Int) ls 0 = zeroTab N by rw [tabTo, Int.toNat_natCast])
    have HPL := Lib.hid hpl
    rw [hc] at CK
    generalize pairsOf (N : Int) ls = ps at CP DU ST HPL
    generalize tabTo (N : Int) ls = T at R SQ SM ST Z0
    clear F hpl hc hnn
    go_enter Try.func28, Try.ntmps28
    go_wp2_with fail
    refine (CK.out _ OA.out).mono ?_
    rintro e w1 ⟨rfl, b1⟩
    have B1 := Lib.hid (B0.out.trans (b1.mono B0.out.size))
    have E1 := Lib.hid (E0.out.below b1)
    clear b1 CK E0 B0 OA
    go_wp2_with fail
    go_loopw [5, 6] (fun ov iv wr => ∃ (k : Nat) (vo : Value), vo = ov ∧ k ≤ N ∧ iv = .int .i64 (k : Int) ∧ Hid (OwnR wr w.heap.size vo (List.replicate k (List.replicate N 0))) ∧ Hid (Below w.heap.size w wr)) (fun _ iv _ => N - (intOf iv).toNat)
    case atStart => exact ⟨0, _, rfl, by omega, rfl, E1, B1⟩
    case round =>
      clear E1 B1
      obtain ⟨k, vo, rfl, hk, rfl, OO, BW⟩ := hrel
      by_cases hlt : k < N
      · have hk1 : (k : Int) < (N : Int) := by omega
        have hsz := BW.out.size
        have hN0 : (0 : Int) ≤ (N : Int) := by omega
        go_wp2_with (first
          | (have q_ := O1; at_builtin; refine wpList_rowR rfl (.tmp 21) (.tmp 24) rfl wr w.heap.size wr.heap.size vo (.slice (some ⟨w1.heap.size, 0, none⟩) 1 1) (.slice (some ⟨wr.heap.size, 0, none⟩) N N) (List.replicate k (List.replicate N 0)) (List.replicate N 0) rfl rfl OO.out (B2.out.alloc hw1 _) (O1.out.alloc _) hsz (oneRow w1 _ wr.heap.size hw1) (by simp; omega) ?_; intro v3 w3 o3 g3 hat3; have O3 := Lib.hid o3; have B3 := Lib.hid ((BW.out.trans ((B2.out.alloc hw1 _).mono hsz)).grown g3 (by simp; omega) (fun k hk => (OO.out.lt k hk).1)); clear o3 g3 hat3)
          | (refine wpList_make_full _ rfl _ _ 29 rfl wr.heap.size 3 i0 (.int .i64 0) 1 Try.underlying29 hi0 hz0 hz1 .i64 .i64 _ _ N rfl rfl rfl rfl (by rw [hz2]; omega) (by simp only [maxLen]; omega) (Nat.le_refl _) ?_; intro w1 own1 grown1; have B2 := Lib.hid (below_of_grown grown1); have hw1 := B2.out.size; have O1 := Lib.hid (madeZero own1); clear own1 grown1))
        exact ⟨⟨k + 1, _, rfl, by omega, by go_num, Lib.hid (by rw [List.replicate_succ']; exact O3.out), B3⟩, by simp [intOf]; omega⟩
      obtain rfl : k = N := by omega
      clear hk hlt
      obtain ⟨vs, orr⟩ := OO.out
      have OO := Lib.hid orr
      obtain ⟨go, co, rfl⟩ : ∃ go co, vo = .slice (some ⟨go, 0, none⟩) k co := by
        rcases orr.row.2 with ⟨_, hn⟩ | ⟨g, cap, cur, e, _⟩
        · simp at hn; omega
        · exact ⟨g, cap, by simpa using e⟩
      clear orr
      go_wp2_with fail
      refine (CP.out _ (O.out.below BW.out)).mono ?_
      rintro e w3 ⟨vp, rfl, p3, b3⟩
      have OT := Lib.hid (show OwnRR w3 w.heap.size (.slice (some ⟨go, 0, none⟩) k co) vs (T 0) by rw [Z0.out]; exact OO.out.below b3)
      have LT := Lib.hid (show ∀ i (hi : i < vs.length) q, vs[i].ownBlock = some q → q < wr.heap.size from fun i hi q e => ((OO.out.each i hi (by rw [← OO.out.len]; exact hi)).lt q e).2)
      have B3 := Lib.hid (BW.out.trans (b3.mono BW.out.size))
      obtain ⟨P, cp, rfl⟩ := p3.slice
      have P3 := Lib.hid p3
      have htop := BW.out.size
      clear p3 b3 OO BW CP
      generalize wr.heap.size = top at LT P3 htop
      have hp40 : ps.length ≤ 40 := by have := HPL.out; omega
      go_wp2_with fail
      go_loopw [8] (fun iv wx => ∃ j : Nat, j ≤ ps.length ∧ iv = .int .i64 (j : Int) ∧ Hid (OwnRR wx w.heap.size (.slice (some ⟨go, 0, none⟩) k co) vs (T j)) ∧ Hid (OwnR wx top (.slice P ps.length cp) ps) ∧ Hid (Below w.heap.size w wx)) (fun iv _ => ps.length - (intOf iv).toNat)
      case atStart => exact ⟨0, by omega, rfl, OT, P3, B3⟩
      case round =>
        clear OT P3 B3
        obtain ⟨j, hj, rfl, OT, OP, BX⟩ := hrel
        by_cases hlt : j < ps.length
        rotate_left
        · obtain rfl : j = ps.length := by omega
          have F := Lib.hid (show twistTab (k : Int) ls = T ps.length by rw [R.out, HPL.out])
          go_wp2
          go_ret
          exact ⟨_, rfl, by rw [F.out]; exact ⟨vs, OT.out⟩, BX.out⟩
        have hjl : j < ls.length := by have := HPL.out; omega
        have hj0 : (0 : Int) ≤ (j : Int) := by omega
        have hj1 : (j : Int) < (ps.length : Int) := by omega
        have hj2 : (j : Int) < (ls.length : Int) := by omega
        obtain ⟨gl, _, f1, _, lt1, z0, _⟩ := O.out.spot hjl
        simp only [Value.slice.injEq] at f1
        obtain ⟨rfl, -, rfl⟩ := f1
        have l1 : wr.cell? ⟨gl, j * 2 + 1, none⟩ = some (.bool ls[j].f1) := (z0.below BX.out lt1) 1 _ rfl
        have hss : sgn (ls.getD j RCross.zero) = if ls[j].f1 = true then 1 else -1 := by rw [List.getD_eq_getElem?_getD, List.getElem?_eq_getElem hjl]; rfl
        obtain ⟨a, d, hz, had, ha, hd⟩ := DU.out j hjl
        have STJ := Lib.hid (ST.out j)
        rw [hz, hss] at STJ
        have EA : pa [(a : Int), (d : Int)] = a := by simp [pa, atI]
        have EB : pb [(a : Int), (d : Int)] = d := by simp [pb, atI]
        unfold tabStep at STJ
        rw [EA, EB] at STJ
        rw [getD_row hlt] at hz
        generalize ls[j].f1 = y at l1 STJ
        have SQJ := SQ.out j (by omega)
        have SMJ := SM.out j (by omega)
        clear z0 hss EA EB
        cases y with
        | true =>
          replace STJ : Hid (T (j + 1) = bump (bump (T j) a d (1)) d a (1)) := STJ
          obtain ⟨g1, c1, ga, ca, e1, va, x0, x1, xf, hgb, SET⟩ := OT.out.entry SQJ ha hd
          simp only [Value.slice.injEq, Option.some.injEq, Addr.mk.injEq] at e1
          obtain ⟨⟨rfl, -⟩, -, rfl⟩ := e1
          obtain ⟨gp, cP, A2, c2, f2, p0, _, pr⟩ := OP.out.spot hlt
          simp only [Value.slice.injEq] at f2
          obtain ⟨rfl, -, rfl⟩ := f2
          rw [hz] at p0 pr
          obtain ⟨gq, cq, f2, _, _, q0, _⟩ := pr.spot (k := 0) (by simp)
          simp only [Value.slice.injEq] at f2
          obtain ⟨rfl, -, rfl⟩ := f2
          obtain ⟨_, _, f2, _, _, q1, _⟩ := pr.spot (k := 1) (by simp)
          simp only [Value.slice.injEq, Option.some.injEq, Addr.mk.injEq] at f2
          obtain ⟨⟨rfl, -⟩, -⟩ := f2
          simp only [List.getElem_cons_zero, List.getElem_cons_succ] at q0 q1
          replace p0 : wr.cell? ⟨gp, j, none⟩ = some (.slice (some ⟨gq, 0, none⟩) 2 c2) := p0
          have hga : ga < top := by
            obtain ⟨h1, h2⟩ := List.getElem?_eq_some_iff.1 va
            exact LT.out a h1 ga (by rw [h2]; rfl)
          have eb := SMJ a d ha hd
          obtain ⟨t1, gg1⟩ := SET (1)
          have OT2 := Lib.hid (t1.below (Below.refl _ _).drew)
          have OP2 := Lib.hid ((OP.out.older gg1 (fun q hq => by have := Option.some.inj hq; omega)).below (Below.refl _ _).drew)
          have BX2 := Lib.hid ((BX.out.grown gg1 BX.out.size (fun q hq => by have := Option.some.inj hq; omega)).drew)
          obtain ⟨x, hx⟩ : ∃ x, ent (T j) a d = x := ⟨_, rfl⟩
          have XE := Lib.hid hx
          rw [hx] at x1 OT2 OP2 BX2 eb
          clear hx
          have ew : IntKind.i64.wrap (x + (1)) = x + (1) := IntWalk.i64_in _ (by omega)
          have ha0 : (0 : Int) ≤ (a : Int) := by omega
          have ha1 : (a : Int) < (k : Int) := by omega
          have hd0 : (0 : Int) ≤ (d : Int) := by omega
          have hd1 : (d : Int) < (k : Int) := by omega
          clear SET t1 gg1 pr va
          go_wp2_with fail
          go_still_tail 35, (by kernel_rfl)
          go_wp2_with fail
          generalize World.drew _ = w2 at OT2 OP2 BX2 ⊢
          clear p0 q0 q1 x0 x1 xf ew eb OT OP BX hga hgb
          have SQ2 : Square k (bump (T j) a d (1)) := bump_square SQJ ha
          have eb2 : -(j : Int) ≤ ent (bump (T j) a d (1)) d a ∧ ent (bump (T j) a d (1)) d a ≤ (j : Int) := by
            rw [ent_bump SQJ ha hd hd ha, if_neg (fun x => had x.1.symm)]
            exact SMJ d a hd ha
          obtain ⟨g1, c1, ga, ca, e1, va, x0, x1, xf, hgb, SET⟩ := OT2.out.entry SQ2 hd ha
          simp only [Value.slice.injEq, Option.some.injEq, Addr.mk.injEq] at e1
          obtain ⟨⟨rfl, -⟩, -, rfl⟩ := e1
          obtain ⟨_, cP, A2, c2, f2, p0, _, pr⟩ := OP2.out.spot hlt
          simp only [Value.slice.injEq, Option.some.injEq, Addr.mk.injEq] at f2
          obtain ⟨⟨rfl, -⟩, -, rfl⟩ := f2
          rw [hz] at p0 pr
          obtain ⟨gq, cq, f2, _, _, q0, _⟩ := pr.spot (k := 0) (by simp)
          simp only [Value.slice.injEq] at f2
          obtain ⟨rfl, -, rfl⟩ := f2
          obtain ⟨_, _, f2, _, _, q1, _⟩ := pr.spot (k := 1) (by simp)
          simp only [Value.slice.injEq, Option.some.injEq, Addr.mk.injEq] at f2
          obtain ⟨⟨rfl, -⟩, -⟩ := f2
          simp only [List.getElem_cons_zero, List.getElem_cons_succ] at q0 q1
          replace p0 : w2.cell? ⟨gp, j, none⟩ = some (.slice (some ⟨gq, 0, none⟩) 2 c2) := p0
          have hga : ga < top := by
            obtain ⟨h1, h2⟩ := List.getElem?_eq_some_iff.1 va
            exact LT.out d h1 ga (by rw [h2]; rfl)
          obtain ⟨t1, gg1⟩ := SET (1)
          have OT3 := Lib.hid (t1.below (Below.refl _ _).drew)
          rw [← STJ.out] at OT3
          have OP3 := Lib.hid ((OP2.out.older gg1 (fun q hq => by have := Option.some.inj hq; omega)).below (Below.refl _ _).drew)
          have BX3 := Lib.hid ((BX2.out.grown gg1 BX2.out.size (fun q hq => by have := Option.some.inj hq; omega)).drew)
          generalize ent (bump (T j) a d (1)) d a = x2 at x1 OT3 OP3 BX3 eb2
          have ew : IntKind.i64.wrap (x2 + (1)) = x2 + (1) := IntWalk.i64_in _ (by omega)
          clear SET t1 gg1 pr va OT2 OP2 BX2 SQ2
          go_still_tail 35, (by kernel_rfl)
          go_wp2_with fail
          exact ⟨⟨j + 1, by omega, by go_num, OT3, OP3, BX3⟩, by simp [intOf]; omega⟩
        | false =>
          replace STJ : Hid (T (j + 1) = bump (bump (T j) a d (-1)) d a (-1)) := STJ
          obtain ⟨g1, c1, ga, ca, e1, va, x0, x1, xf, hgb, SET⟩ := OT.out.entry SQJ ha hd
          simp only [Value.slice.injEq, Option.some.injEq, Addr.mk.injEq] at e1
          obtain ⟨⟨rfl, -⟩, -, rfl⟩ := e1
          obtain ⟨gp, cP, A2, c2, f2, p0, _, pr⟩ := OP.out.spot hlt
          simp only [Value.slice.injEq] at f2
          obtain ⟨rfl, -, rfl⟩ := f2
          rw [hz] at p0 pr
          obtain ⟨gq, cq, f2, _, _, q0, _⟩ := pr.spot (k := 0) (by simp)
          simp only [Value.slice.injEq] at f2
          obtain ⟨rfl, -, rfl⟩ := f2
          obtain ⟨_, _, f2, _, _, q1, _⟩ := pr.spot (k := 1) (by simp)
          simp only [Value.slice.injEq, Option.some.injEq, Addr.mk.injEq] at f2
          obtain ⟨⟨rfl, -⟩, -⟩ := f2
          simp only [List.getElem_cons_zero, List.getElem_cons_succ] at q0 q1
          replace p0 : wr.cell? ⟨gp, j, none⟩ = some (.slice (some ⟨gq, 0, none⟩) 2 c2) := p0
          have hga : ga < top := by
            obtain ⟨h1, h2⟩ := List.getElem?_eq_some_iff.1 va
            exact LT.out a h1 ga (by rw [h2]; rfl)
          have eb := SMJ a d ha hd
          obtain ⟨t1, gg1⟩ := SET (-1)
          have OT2 := Lib.hid (t1.below (Below.refl _ _).drew)
          have OP2 := Lib.hid ((OP.out.older gg1 (fun q hq => by have := Option.some.inj hq; omega)).below (Below.refl _ _).drew)
          have BX2 := Lib.hid ((BX.out.grown gg1 BX.out.size (fun q hq => by have := Option.some.inj hq; omega)).drew)
          obtain ⟨x, hx⟩ : ∃ x, ent (T j) a d = x := ⟨_, rfl⟩
          have XE := Lib.hid hx
          rw [hx] at x1 OT2 OP2 BX2 eb
          clear hx
          have ew : IntKind.i64.wrap (x + (-1)) = x + (-1) := IntWalk.i64_in _ (by omega)
          have ha0 : (0 : Int) ≤ (a : Int) := by omega
          have ha1 : (a : Int) < (k : Int) := by omega
          have hd0 : (0 : Int) ≤ (d : Int) := by omega
          have hd1 : (d : Int) < (k : Int) := by omega
          clear SET t1 gg1 pr va
          go_wp2_with fail
          go_still_tail 35, (by kernel_rfl)
          go_wp2_with fail
          generalize World.drew _ = w2 at OT2 OP2 BX2 ⊢
          clear p0 q0 q1 x0 x1 xf ew eb OT OP BX hga hgb
          have SQ2 : Square k (bump (T j) a d (-1)) := bump_square SQJ ha
          have eb2 : -(j : Int) ≤ ent (bump (T j) a d (-1)) d a ∧ ent (bump (T j) a d (-1)) d a ≤ (j : Int) := by
            rw [ent_bump SQJ ha hd hd ha, if_neg (fun x => had x.1.symm)]
            exact SMJ d a hd ha
          obtain ⟨g1, c1, ga, ca, e1, va, x0, x1, xf, hgb, SET⟩ := OT2.out.entry SQ2 hd ha
          simp only [Value.slice.injEq, Option.some.injEq, Addr.mk.injEq] at e1
          obtain ⟨⟨rfl, -⟩, -, rfl⟩ := e1
          obtain ⟨_, cP, A2, c2, f2, p0, _, pr⟩ := OP2.out.spot hlt
          simp only [Value.slice.injEq, Option.some.injEq, Addr.mk.injEq] at f2
          obtain ⟨⟨rfl, -⟩, -, rfl⟩ := f2
          rw [hz] at p0 pr
          obtain ⟨gq, cq, f2, _, _, q0, _⟩ := pr.spot (k := 0) (by simp)
          simp only [Value.slice.injEq] at f2
          obtain ⟨rfl, -, rfl⟩ := f2
          obtain ⟨_, _, f2, _, _, q1, _⟩ := pr.spot (k := 1) (by simp)
          simp only [Value.slice.injEq, Option.some.injEq, Addr.mk.injEq] at f2
          obtain ⟨⟨rfl, -⟩, -⟩ := f2
          simp only [List.getElem_cons_zero, List.getElem_cons_succ] at q0 q1
          replace p0 : w2.cell? ⟨gp, j, none⟩ = some (.slice (some ⟨gq, 0, none⟩) 2 c2) := p0
          have hga : ga < top := by
            obtain ⟨h1, h2⟩ := List.getElem?_eq_some_iff.1 va
            exact LT.out d h1 ga (by rw [h2]; rfl)
          obtain ⟨t1, gg1⟩ := SET (-1)
          have OT3 := Lib.hid (t1.below (Below.refl _ _).drew)
          rw [← STJ.out] at OT3
          have OP3 := Lib.hid ((OP2.out.older gg1 (fun q hq => by have := Option.some.inj hq; omega)).below (Below.refl _ _).drew)
          have BX3 := Lib.hid ((BX2.out.grown gg1 BX2.out.size (fun q hq => by have := Option.some.inj hq; omega)).drew)
          generalize ent (bump (T j) a d (-1)) d a = x2 at x1 OT3 OP3 BX3 eb2
          have ew : IntKind.i64.wrap (x2 + (-1)) = x2 + (-1) := IntWalk.i64_in _ (by omega)
          clear SET t1 gg1 pr va OT2 OP2 BX2 SQ2
          go_still_tail 35, (by kernel_rfl)
          go_wp2_with fail
          exact ⟨⟨j + 1, by omega, by go_num, OT3, OP3, BX3⟩, by simp [intOf]; omega⟩
end Go.Proofs.Ytokgcchcjaimhaa
