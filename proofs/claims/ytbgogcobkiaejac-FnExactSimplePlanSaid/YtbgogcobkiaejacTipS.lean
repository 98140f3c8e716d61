/- The contract of spec.SimplePlan. Condition: the cues lie in a row of their own. -/
import Derived.Test.YtbgogcobkiaejacPk3
import Derived.Test.YtbgogcobkiaejacTimS
import Derived.Test.YtbgogcobkiaejacTicS
import Derived.BigQuiet
namespace Go.Proofs.Ytbgogcobkiaejac
set_option linter.unusedVariables false
set_option linter.unusedSimpArgs false
open Go.RowKit

set_option maxRecDepth 100000 in
set_option maxHeartbeats 6400000 in
theorem specPln (v : Value) (ls : List RCue) (b : Nat) (w : World) (h : OwnCue w b v ls) (hl : bulkCue ls ≤ 1048576) :
    Calls Try.prog 35 #[v] w (IntsPost w (simplePlan ls)) := by
  obtain ⟨i0, hi0, hz0, hz1, hz2⟩ := info_parts info_int
  have CK := Lib.hid (specCOk v ls b w h hl)
  have CO := Lib.hid (fun W h => specOrd v ls b W h hl)
  obtain ⟨A, c, rfl⟩ := h.slice
  have O := Lib.hid h
  clear h
  have hbl := bulkCue_len ls
  cases hok : cuesOk ls with
  | false =>
    have R := Lib.hid (show simplePlan ls = [] by unfold simplePlan; rw [hok]; rfl)
    rw [hok] at CK
    clear hok
    go_enter Try.func35, Try.ntmps35
    go_wp2_with (go_at_call 50; refine CK.out.mono ?_; rintro e w2 ⟨rfl, b2⟩; have B2 := Lib.hid b2; have E2 := Lib.hid (ownI_empty w2 w.heap.size w2.heap.size #[] rfl b2.size rfl); clear b2)
    go_ret
    exact ⟨_, rfl, by rw [R.out]; exact E2.out, B2.out.alloc B2.out.size _⟩
  | true =>
    have hn := (cuesOk_has hok).1
    have R := Lib.hid (show simplePlan ls = planTo ls ls.length by unfold simplePlan; rw [if_pos hok])
    have HOK := Lib.hid hok
    have OL : (cueOrder ls).length = ls.length := by unfold cueOrder; rw [if_pos hok, ord_len]
    have OLH := Lib.hid OL
    rw [hok] at CK
    clear hok OL
    go_enter Try.func35, Try.ntmps35
    go_wp2_with fail
    refine CK.out.mono ?_
    rintro e w1 ⟨rfl, b1⟩
    have B1 := Lib.hid b1
    have O1 := Lib.hid (O.out.below b1)
    clear b1 CK
    go_wp2_with (
      refine wpList_make_full _ rfl _ _ 26 rfl w1.heap.size 3 i0 (.int .i64 0) 1 Try.underlying26 hi0 hz0 hz1 .i64 .i64 _ _ ls.length rfl rfl rfl rfl (by rw [hz2]; omega) (by simp only [maxLen]; omega) (by simp) ?_
      intro w2 own2 grown2
      have P2 := Lib.hid (show OwnI w2 w1.heap.size (.slice (some ⟨w1.heap.size, 0, none⟩) ls.length ls.length) (planTo ls 0) from madeZero own2)
      have B2 := Lib.hid (B1.out.trans ((below_of_grown grown2).mono B1.out.size))
      have O2 := Lib.hid (O1.out.below (below_of_grown grown2))
      have LT := Lib.hid (P2.out.lt)
      have hb1 := B1.out.size
      clear own2 grown2 B1 O1)
    refine (CO.out _ O2.out).mono ?_
    rintro e w3 ⟨vo, rfl, o3, b3⟩
    obtain ⟨Z, co, e3⟩ := o3.slice
    rw [OLH.out] at e3
    subst e3
    have hg : w1.heap.size < w2.heap.size := (LT.out _ rfl).2
    have Z3 := Lib.hid o3
    have P3 := Lib.hid (P2.out.below b3)
    have B3 := Lib.hid (B2.out.trans (b3.mono B2.out.size))
    have SEP := Lib.hid (fun q hq => (o3.lt q hq).1)
    have AF := Lib.hid (show ∀ W, Below w.heap.size w W → OwnCue W b (.slice A ls.length c) ls from fun W hb => O.out.below hb)
    clear o3 b3 P2 B2 O2 CO LT
    go_wp2_with fail
    go_loopw [5] (fun iv wr => ∃ i : Nat, i ≤ ls.length ∧ iv = .int .i64 (i : Int) ∧ Hid (OwnI wr w1.heap.size (.slice (some ⟨w1.heap.size, 0, none⟩) ls.length ls.length) (planTo ls i)) ∧ Hid (OwnI wr w2.heap.size (.slice Z ls.length co) (cueOrder ls)) ∧ Hid (Below w.heap.size w wr)) (fun iv _ => ls.length - (intOf iv).toNat)
    case atStart => exact ⟨0, by omega, rfl, P3, Z3, B3⟩
    case round =>
      clear P3 Z3 B3
      obtain ⟨i, hi, rfl, PP, ZZ, BW⟩ := hrel
      by_cases hlt : i < ls.length
      rotate_left
      · obtain rfl : i = ls.length := by omega
        rw [← R.out] at PP
        go_wp2
        go_ret
        exact ⟨_, rfl, PP.out.mono hb1, BW.out⟩
      have hi0' : (0 : Int) ≤ (i : Int) := by omega
      have hi1 : (i : Int) < (ls.length : Int) := by omega
      obtain ⟨p, hp, hpe⟩ := order_get HOK.out hlt
      obtain ⟨gz, _, f1, -, -, z0, -⟩ := ZZ.out.spot (k := i) (by rw [OLH.out]; exact hlt)
      simp only [Value.slice.injEq] at f1
      obtain ⟨rfl, -, -⟩ := f1
      rw [show (cueOrder ls)[i]'(by rw [OLH.out]; exact hlt) = (p : Int) from by rw [List.getElem?_eq_getElem (by rw [OLH.out]; exact hlt)] at hpe; exact Option.some.inj hpe] at z0
      have NX := Lib.hid (show planTo ls (i + 1) = clearTo ls p (relaxTo ls p (planTo ls i) (ls.getD p RCue.zero).f1.length) i by rw [planTo]; rw [List.getD_eq_getElem?_getD, hpe]; rfl)
      have hp0 : (0 : Int) ≤ (p : Int) := by omega
      have hp1 : (p : Int) < (ls.length : Int) := by omega
      have hed : ls.getD p RCue.zero = ls[p] := by rw [List.getD_eq_getElem?_getD, List.getElem?_eq_getElem hp]; rfl
      have PM := after_max HOK.out hp
      have P5 := Lib.hid (show OwnI wr w1.heap.size (.slice (some ⟨w1.heap.size, 0, none⟩) ls.length ls.length) (relaxTo ls p (planTo ls i) 0) from PP.out)
      have CF := Lib.hid ((cue_fine HOK.out hp).2)
      have RI := Lib.hid (relax_in HOK.out hp (plan_in HOK.out i (by omega)) (by omega))
      obtain ⟨F, hF⟩ : ∃ F, (ls.getD p RCue.zero).f1.length = F := ⟨_, rfl⟩
      rw [hF] at NX PM CF RI
      have HF := Lib.hid hF
      have HED := Lib.hid hed
      clear hF hed
      go_wp2_with fail
      go_loopw [7] (fun jv wr => ∃ j : Nat, j ≤ F ∧ jv = .int .i64 (j : Int) ∧ Hid (OwnI wr w1.heap.size (.slice (some ⟨w1.heap.size, 0, none⟩) ls.length ls.length) (relaxTo ls p (planTo ls i) j)) ∧ Hid (OwnI wr w2.heap.size (.slice (some ⟨gz, 0, none⟩) ls.length co) (cueOrder ls)) ∧ Hid (Below w.heap.size w wr)) (fun jv _ => F - (intOf jv).toNat)
      case atStart => exact ⟨0, by omega, rfl, P5, ZZ, BW⟩
      case round =>
        clear P5 PP ZZ BW z0
        obtain ⟨j, hj, rfl, PP, ZZ, BW⟩ := hrel
        obtain ⟨g, cg, A1, c1, A2, c2, f1, -, ⟨-, x1, -⟩, ⟨o1, -⟩, -⟩ := (AF.out _ BW.out).spot hp
        simp only [Value.slice.injEq] at f1
        obtain ⟨rfl, -, rfl⟩ := f1
        rw [← HED.out] at x1 o1
        have gA : ∀ (zs : List Int) t (ht : t < zs.length), zs[t] = zs.getD t 0 := fun zs t ht => by rw [List.getD_eq_getElem?_getD, List.getElem?_eq_getElem ht]; rfl
        by_cases hlj : j < F
        rotate_left
        · obtain rfl : j = F := by omega
          rw [HF.out] at x1
          have CI := Lib.hid (clear_in HOK.out hp (RI.out j (Nat.le_refl _)) (by omega))
          have al : (relaxTo ls p (planTo ls i) j).length = ls.length := by rw [relax_len, plan_len]
          generalize relaxTo ls p (planTo ls i) j = arr at PP NX CI al
          have AL := Lib.hid al
          have P6 := Lib.hid (show OwnI wr w1.heap.size (.slice (some ⟨w1.heap.size, 0, none⟩) ls.length ls.length) (clearTo ls p arr 0) from PP.out)
          clear o1 hlj hj al
          go_wp2_with fail
          go_loopw [9] (fun mv wr => ∃ m : Nat, m ≤ i ∧ mv = .int .i64 (m : Int) ∧ Hid (OwnI wr w1.heap.size (.slice (some ⟨w1.heap.size, 0, none⟩) ls.length ls.length) (clearTo ls p arr m)) ∧ Hid (OwnI wr w2.heap.size (.slice (some ⟨gz, 0, none⟩) ls.length co) (cueOrder ls)) ∧ Hid (Below w.heap.size w wr)) (fun mv _ => i - (intOf mv).toNat)
          case atStart => exact ⟨0, by omega, rfl, P6, ZZ, BW⟩
          case round =>
            clear P6 PP ZZ BW x1
            obtain ⟨m, hm, rfl, PP, ZZ, BW⟩ := hrel
            by_cases hlm : m < i
            rotate_left
            · obtain rfl : m = i := by omega
              rw [← NX.out] at PP
              go_wp2
              exact ⟨⟨m + 1, by omega, by go_num, PP, ZZ, BW⟩, by simp [intOf]; omega⟩
            have hm0 : (0 : Int) ≤ (m : Int) := by omega
            have hm1 : (m : Int) < (i : Int) := by omega
            have hm2 : (m : Int) < (ls.length : Int) := by omega
            have hml : m < ls.length := by omega
            obtain ⟨q, hq, hqe⟩ := order_get HOK.out hml
            obtain ⟨_, _, f1, -, -, z0, -⟩ := ZZ.out.spot (k := m) (by rw [OLH.out]; exact hml)
            simp only [Value.slice.injEq, Option.some.injEq, Addr.mk.injEq] at f1
            obtain ⟨⟨rfl, _⟩, -, -⟩ := f1
            rw [show (cueOrder ls)[m]'(by rw [OLH.out]; exact hml) = (q : Int) from by rw [List.getElem?_eq_getElem (by rw [OLH.out]; exact hml)] at hqe; exact Option.some.inj hqe] at z0
            have STEP := Lib.hid (show clearTo ls p arr (m + 1) = if commonB (ls.getD p RCue.zero).f2 (ls.getD q RCue.zero).f2 = true then (clearTo ls p arr m).set p (if (clearTo ls p arr m).getD p 0 < (clearTo ls p arr m).getD q 0 + (ls.getD q RCue.zero).f0 then (clearTo ls p arr m).getD q 0 + (ls.getD q RCue.zero).f0 else (clearTo ls p arr m).getD p 0) else clearTo ls p arr m by rw [clearTo]; rw [List.getD_eq_getElem?_getD (l := cueOrder ls), hqe]; rfl)
            have hq0 : (0 : Int) ≤ (q : Int) := by omega
            have hq1 : (q : Int) < (ls.length : Int) := by omega
            have gl : ∀ (p : Nat) (hp : p < ls.length), ls[p] = ls.getD p RCue.zero := fun p hp => by rw [List.getD_eq_getElem?_getD, List.getElem?_eq_getElem hp]; rfl
            obtain ⟨_, _, X1, k1, Y1, e1, f1, -, ⟨x0, x1, x2⟩, ⟨-, ox⟩, -⟩ := (AF.out _ BW.out).spot hp
            simp only [Value.slice.injEq, Option.some.injEq, Addr.mk.injEq] at f1
            obtain ⟨⟨rfl, _⟩, -, -⟩ := f1
            obtain ⟨_, _, X2, k2, Y2, e2, f1, -, ⟨y0, y1, y2⟩, ⟨-, oy⟩, -⟩ := (AF.out _ BW.out).spot hq
            simp only [Value.slice.injEq, Option.some.injEq, Addr.mk.injEq] at f1
            obtain ⟨⟨rfl, _⟩, -, -⟩ := f1
            have bx : ls[p].f2.length ≤ 1048576 := by have := bulkCue_row ls p hp; omega
            have by' : ls[q].f2.length ≤ 1048576 := by have := bulkCue_row ls q hq; omega
            have ft := (cue_fine HOK.out hq).1
            rw [gl p hp] at x0 x1 x2 ox bx
            rw [gl q hq] at y0 y1 y2 oy by'
            have gA : ∀ (zs : List Int) t (ht : t < zs.length), zs[t] = zs.getD t 0 := fun zs t ht => by rw [List.getD_eq_getElem?_getD, List.getElem?_eq_getElem ht]; rfl
            have hrl : (clearTo ls p arr m).length = ls.length := by rw [clear_len]; exact AL.out
            have hin := CI.out m (by omega)
            have b1 := hin p
            have b2 := hin q
            have HB1 := Lib.hid b1
            have HB2 := Lib.hid b2
            have HFT := Lib.hid ft
            have CELL := Lib.hid (show ∀ W, OwnI W w1.heap.size (.slice (some ⟨w1.heap.size, 0, none⟩) ls.length ls.length) (clearTo ls p arr m) → (W.cell? ⟨w1.heap.size, p, none⟩ = some (.int .i64 ((clearTo ls p arr m).getD p 0)) ∧ W.frozen? ⟨w1.heap.size, p, none⟩ = false) ∧ W.cell? ⟨w1.heap.size, q, none⟩ = some (.int .i64 ((clearTo ls p arr m).getD q 0)) from fun W hW => by
              obtain ⟨_, _, f1, -, -, u0, uf⟩ := hW.spot (k := p) (by rw [hrl]; exact hp)
              simp only [Value.slice.injEq, Option.some.injEq, Addr.mk.injEq] at f1
              obtain ⟨⟨rfl, _⟩, -, -⟩ := f1
              obtain ⟨_, _, f1, -, -, v0, -⟩ := hW.spot (k := q) (by rw [hrl]; exact hq)
              simp only [Value.slice.injEq, Option.some.injEq, Addr.mk.injEq] at f1
              obtain ⟨⟨rfl, _⟩, -, -⟩ := f1
              rw [gA] at u0 v0
              exact ⟨⟨u0, uf⟩, v0⟩)
            have HRL := Lib.hid hrl
            have hbs := BW.out.size
            have Y0 := Lib.hid y0
            have Z0 := Lib.hid z0
            have CC := Lib.hid (fun W h1 h2 => specCom (ls.getD p RCue.zero).f0 (ls.getD q RCue.zero).f0 X1 X2 (ls.getD p RCue.zero).f1.length k1 (ls.getD q RCue.zero).f1.length k2 (.slice Y1 (ls.getD p RCue.zero).f2.length e1) (.slice Y2 (ls.getD q RCue.zero).f2.length e2) (ls.getD p RCue.zero).f2 (ls.getD q RCue.zero).f2 b b W h1 h2 (by omega) (by omega))
            have H1 := Lib.hid (ox.below (Below.refl _ _).drew)
            have H2 := Lib.hid (oy.below (Below.refl _ _).drew)
            clear gl gA hrl hin b1 b2 ft ox oy bx by' hqe
            generalize (ls.getD p RCue.zero).f0 = t1 at x0 CC
            generalize (ls.getD p RCue.zero).f1.length = n1 at x1 CC
            generalize (ls.getD q RCue.zero).f1.length = n2 at y1 CC
            generalize (ls.getD p RCue.zero).f2 = xs at x2 CC H1 STEP
            generalize (ls.getD q RCue.zero).f2 = ys at y2 CC H2 STEP
            generalize (ls.getD q RCue.zero).f0 = t2 at y0 Y0 CC STEP HFT
            cases hcm : commonB xs ys with
            | false =>
              rw [hcm] at CC STEP
              go_wp2_with fail
              go_still_tail 11, (by kernel_rfl)
              go_wp2_with fail
              refine (CC.out _ H1.out H2.out).mono ?_
              rintro e w4 ⟨rfl, b4⟩
              replace b4 := undrew b4
              have P4 := Lib.hid (show OwnI w4 w1.heap.size (.slice (some ⟨w1.heap.size, 0, none⟩) ls.length ls.length) (clearTo ls p arr (m + 1)) by rw [STEP.out]; exact PP.out.below b4)
              have Z4 := Lib.hid (ZZ.out.below b4)
              have B4 := Lib.hid (BW.out.trans (b4.mono hbs))
              clear b4 PP ZZ BW
              go_wp2
              exact ⟨⟨m + 1, by omega, by go_num, P4, Z4, B4⟩, by simp [intOf]; omega⟩
            | true =>
              rw [hcm, if_pos rfl] at STEP
              rw [hcm] at CC
              go_wp2_with fail
              go_still_tail 11, (by kernel_rfl)
              go_wp2_with fail
              refine (CC.out _ H1.out H2.out).mono ?_
              rintro e w4 ⟨rfl, b4⟩
              replace b4 := undrew b4
              have P4 := PP.out.below b4
              obtain ⟨⟨u0, uf⟩, v0⟩ := CELL.out _ P4
              have SET := P4.set (k := p) HRL.out.symm (if (clearTo ls p arr m).getD p 0 < (clearTo ls p arr m).getD q 0 + t2 then (clearTo ls p arr m).getD q 0 + t2 else (clearTo ls p arr m).getD p 0)
              rw [← STEP.out] at SET
              have z4 := cell_below Z0.out b4
              have y4 := cell_below Y0.out b4
              have B4 := Lib.hid (BW.out.trans (b4.mono hbs))
              have hbs2 := B4.out.size
              have S2 := Lib.hid SET.1
              have B2 := Lib.hid (B4.out.grown SET.2 hbs2 (fun q hq => by have := Option.some.inj hq; omega))
              have Z2 := Lib.hid ((ZZ.out.below b4).kept SET.2 (sep_of fun q e1 e2 => by have := SEP.out q e1; have := Option.some.inj e2; omega))
              have b1 := HB1.out
              have b2 := HB2.out
              have ft := HFT.out
              clear SET b4 PP ZZ BW CELL CC H1 H2 x0 x1 x2 y0 y1 y2 z0 Y0 Z0 P4 B4
              generalize (clearTo ls p arr m).getD p 0 = x at u0 b1 S2 B2 Z2
              generalize (clearTo ls p arr m).getD q 0 = y at v0 b2 S2 B2 Z2
              have ew : IntKind.i64.wrap (y + t2) = y + t2 := IntWalk.i64_in _ (by omega)
              go_wp2_with fail
              go_still_tail 24, (by kernel_rfl)
              go_wp2
              exact ⟨⟨m + 1, by omega, by go_num, Lib.hid (S2.out.below (Below.refl _ _).drew), Lib.hid (Z2.out.below (Below.refl _ _).drew), Lib.hid B2.out.drew⟩, by simp [intOf]; omega⟩
        have hj0 : (0 : Int) ≤ (j : Int) := by omega
        have hj1 : (j : Int) < (F : Int) := by omega
        obtain ⟨q0, q1⟩ := CF.out j hlj
        obtain ⟨q, hq⟩ := Int.eq_ofNat_of_zero_le q0
        rw [hq] at q0 q1
        obtain ⟨ga, ca, e1, -, -, y0, -⟩ := o1.spot (k := j) (by rw [HF.out]; exact hlj)
        simp only [Value.slice.injEq] at e1
        obtain ⟨rfl, -, rfl⟩ := e1
        rw [gA, hq] at y0
        rw [HF.out] at x1
        have hql : q < ls.length := by omega
        obtain ⟨_, _, _, _, _, _, f1, -, ⟨t0, -, -⟩, -⟩ := (AF.out _ BW.out).spot hql
        simp only [Value.slice.injEq, Option.some.injEq, Addr.mk.injEq] at f1
        obtain ⟨⟨rfl, _⟩, -, -⟩ := f1
        rw [show ls[q] = ls.getD q RCue.zero from by rw [List.getD_eq_getElem?_getD, List.getElem?_eq_getElem hql]; rfl] at t0
        have ft := (cue_fine HOK.out hql).1
        have hrl : (relaxTo ls p (planTo ls i) j).length = ls.length := by rw [relax_len, plan_len]
        have hin := RI.out j (by omega)
        have b1 := hin p
        have b2 := hin q
        obtain ⟨_, _, f1, -, -, u0, uf⟩ := PP.out.spot (k := p) (by rw [hrl]; exact hp)
        simp only [Value.slice.injEq, Option.some.injEq, Addr.mk.injEq] at f1
        obtain ⟨⟨rfl, _⟩, -, -⟩ := f1
        obtain ⟨_, _, f1, -, -, v0, -⟩ := PP.out.spot (k := q) (by rw [hrl]; exact hql)
        simp only [Value.slice.injEq, Option.some.injEq, Addr.mk.injEq] at f1
        obtain ⟨⟨rfl, _⟩, -, -⟩ := f1
        rw [gA] at u0 v0
        have SET := PP.out.set (k := p) (by rw [hrl]) (if (relaxTo ls p (planTo ls i) j).getD p 0 < (relaxTo ls p (planTo ls i) j).getD q 0 + (ls.getD q RCue.zero).f0 then (relaxTo ls p (planTo ls i) j).getD q 0 + (ls.getD q RCue.zero).f0 else (relaxTo ls p (planTo ls i) j).getD p 0)
        rw [show (relaxTo ls p (planTo ls i) j).set p (if (relaxTo ls p (planTo ls i) j).getD p 0 < (relaxTo ls p (planTo ls i) j).getD q 0 + (ls.getD q RCue.zero).f0 then (relaxTo ls p (planTo ls i) j).getD q 0 + (ls.getD q RCue.zero).f0 else (relaxTo ls p (planTo ls i) j).getD p 0) = relaxTo ls p (planTo ls i) (j + 1) from by rw [relaxTo]; rw [hq, Int.toNat_natCast]] at SET
        have hbs2 := BW.out.size
        have S2 := Lib.hid SET.1
        have B2 := Lib.hid (BW.out.grown SET.2 hbs2 (fun q hq => by have := Option.some.inj hq; omega))
        have Z2 := Lib.hid (ZZ.out.kept SET.2 (sep_of fun q e1 e2 => by have := SEP.out q e1; have := Option.some.inj e2; omega))
        clear SET gA hin hrl o1 hq PP ZZ BW
        generalize (relaxTo ls p (planTo ls i) j).getD p 0 = x at u0 b1 S2 B2 Z2
        generalize (relaxTo ls p (planTo ls i) j).getD q 0 = y at v0 b2 S2 B2 Z2
        generalize (ls.getD q RCue.zero).f0 = t at t0 ft S2 B2 Z2
        have ew : IntKind.i64.wrap (y + t) = y + t := IntWalk.i64_in _ (by omega)
        go_wp2_with fail
        go_still_tail 18, (by kernel_rfl)
        go_wp2
        exact ⟨⟨j + 1, by omega, by go_num, Lib.hid (S2.out.below (Below.refl _ _).drew), Lib.hid (Z2.out.below (Below.refl _ _).drew), Lib.hid B2.out.drew⟩, by simp [intOf]; omega⟩
end Go.Proofs.Ytbgogcobkiaejac
