/- The law FnCrossings, walked over the contracts of the program's functions. No condition. -/
import Derived.Test.YtbcibgibcojoeaaLstC
import Derived.Test.YtbcibgibcojoeaaOrAS
import Derived.Test.YtbcibgibcojoeaaRowR
import Derived.Test.YtbcibgibcojoeaaRowI
import Derived.Test.YtbcibgibcojoeaaSamI
import Derived.Test.YtbcibgibcojoeaaCrsI
import Derived.BigQuiet
namespace Go.Proofs.Ytbcibgibcojoeaa
set_option linter.unusedVariables false
set_option linter.unusedSimpArgs false
open Go.RowKit

theorem front_in {n : Int} {ls : List RCross} {k : Nat} (h : crossOk n ls = true) (hk : (k : Int) < n) : countFront n ls (k : Int) = (frontTo (k : Int) (pairsOf n ls) (pairsOf n ls).length : Int) := by
  unfold countFront
  rw [if_pos ⟨h, inB_yes (by omega)⟩]
theorem front_le (p : Int) (zss : List (List Int)) (k : Nat) : frontTo p zss k ≤ zss.length := by
  unfold frontTo
  have h1 := List.countP_le_length (p := fun z => decide (atI z 0 = p)) (l := zss.take k)
  rw [List.length_take] at h1
  omega
theorem below_le (m : Int) (zss : List (List Int)) : frontBelow m zss ≤ zss.length := List.countP_le_length

/- HYPOTHESES -/
set_option maxRecDepth 100000 in
set_option maxHeartbeats 3200000 in
theorem FnCrossings_walk (a : Option Addr) (n cap : Nat) (z : List Int) (w : World) (hr : IsRow .u8 w a n cap z) :
    Calls Try.prog 3 #[.slice a n cap] w fun e w' => e = .returned (.bool true) ∧ Below w.heap.size w w' := by
  have hm := row_len hr
  by_cases hn : 1048576 < n
  · clear hr
    go_enter Try.func3, Try.ntmps3
    go_wp2_with fail
    refine (big_yes a n cap w hn hm).mono ?_
    rintro e w' ⟨rfl, rfl⟩
    go_wp2
    go_ret
    exact ⟨rfl, Below.refl _ _⟩
  have CD := Lib.hid (drawCrosses_any a n cap z w hr (by omega))
  clear hr
  go_enter Try.func3, Try.ntmps3
  go_wp2_with fail
  refine (big_no a n cap w (by omega)).mono ?_
  rintro e w' ⟨rfl, rfl⟩
  go_wp2_with fail
  refine CD.out.mono ?_
  rintro e w1 ⟨N, vl, ls, rfl, hN, o1, hl9, hok, b1⟩
  obtain ⟨L, cl, rfl⟩ := o1.slice
  have O1 := Lib.hid o1
  have B1 := Lib.hid b1
  clear o1 b1 CD hm hn
  have CF := crossFacts hok
  obtain ⟨m, hm⟩ := CF.redLen
  have hol := CF.ordLen
  have hpl := CF.pairLen
  have hul := undo_len ls
  have hbo := CF.bothOrd (by omega)
  have hbr := CF.bothRed (by omega)
  have C1 := Lib.hid (fun W h => implOrdA (N : Int) (.slice L ls.length cl) ls w.heap.size W h (by omega))
  have C2 := Lib.hid (fun W h => implPairs (N : Int) (.slice L ls.length cl) ls w.heap.size W h (by omega))
  have C3 := Lib.hid (fun W h => implUndo (.slice L ls.length cl) ls w.heap.size W h (by omega))
  have C4 := Lib.hid (fun W h => implRed (N : Int) (.slice L ls.length cl) ls w.heap.size W h (by omega))
  have C5 := Lib.hid (fun v b W h => CF.redOrd ▸ implOrdA (N : Int) v (reduced (N : Int) ls) b W h (by omega))
  have C6 := Lib.hid (fun v b W h => hbo ▸ implOrdA (N : Int) v (ls ++ undo ls) b W h (by rw [List.length_append]; omega))
  have C7 := Lib.hid (fun W => specOrdA (N : Int) (.slice none 0 0) [] 0 W ⟨rfl, .inl ⟨rfl, rfl⟩⟩ (by simp))
  have C8 := Lib.hid (fun v b W h => hbr ▸ implRed (N : Int) v (ls ++ undo ls) b W h (by rw [List.length_append]; omega))
  have C9 := Lib.hid (fun (k : Nat) (hk : (k : Int) < (N : Int)) W h => front_in hok hk ▸ implFront (N : Int) (.slice L ls.length cl) ls w.heap.size W h (by omega) (k : Int))
  have C10 := Lib.hid (fun W h => hok ▸ implCrOk (N : Int) (.slice L ls.length cl) ls w.heap.size W h (by omega))
  have CS := Lib.hid (fun v1 v2 zs b1 b2 W h1 h2 (hl : zs.length ≤ 2000000) => sameInts_same v1 v2 zs b1 b2 W h1 h2 hl)
  have PR := Lib.hid CF.pair
  have NP := Lib.hid CF.noPair
  have FA := Lib.hid (frontBelow_all (n := (N : Int)) (zss := pairsOf (N : Int) ls) (fun k hk => by
    obtain ⟨x, y, e, _, hx, _⟩ := CF.pair k hk
    rw [e]
    exact hx))
  have hel := ordAfter_len (N : Int) []
  have HOL := Lib.hid hol
  have HPL := Lib.hid hpl
  have HUL := Lib.hid hul
  have HM := Lib.hid hm
  clear CF hok hbo hbr hol hpl hul hm
  generalize ordAfter (N : Int) ls = zs at C1 C5 HOL
  generalize pairsOf (N : Int) ls = ps at C2 C9 PR FA HPL
  generalize undo ls = us at C3 C6 C8 HUL
  generalize reduced (N : Int) ls = rs at C4 C5 NP HM
  generalize ordAfter (N : Int) [] = es at C6 C7 hel
  go_wp2_with fail
  refine (C1.out _ O1.out).mono ?_
  rintro e w2 ⟨vo, rfl, z2, b2⟩
  obtain ⟨Z, cz, rfl⟩ := z2.slice
  have Z2 := Lib.hid z2
  have O2 := Lib.hid (O1.out.below b2)
  have B2 := Lib.hid (B1.out.trans (b2.mono B1.out.size))
  clear b2 z2 O1 B1 C1
  go_wp2_with fail
  refine (C2.out _ O2.out).mono ?_
  rintro e w3 ⟨vp, rfl, p3, b3⟩
  obtain ⟨P, cp, rfl⟩ := p3.slice
  have P3 := Lib.hid p3
  have Z3 := Lib.hid (Z2.out.below b3)
  have O3 := Lib.hid (O2.out.below b3)
  have B3 := Lib.hid (B2.out.trans (b3.mono B2.out.size))
  clear b3 p3 O2 B2 Z2 C2
  go_wp2_with fail
  refine (C3.out _ O3.out).mono ?_
  rintro e w4 ⟨vu, rfl, u4, b4⟩
  obtain ⟨U, cu, rfl⟩ := u4.slice
  have U4 := Lib.hid u4
  have P4 := Lib.hid (P3.out.below b4)
  have Z4 := Lib.hid (Z3.out.below b4)
  have O4 := Lib.hid (O3.out.below b4)
  have B4 := Lib.hid (B3.out.trans (b4.mono B3.out.size))
  clear b4 u4 O3 B3 Z3 P3 C3
  go_wp2_with fail
  refine (C4.out _ O4.out).mono ?_
  rintro e w5 ⟨vr, rfl, r5, b5⟩
  obtain ⟨R, cr, rfl⟩ := r5.slice
  have KF := Lib.hid (show ∀ W, Below w5.heap.size w5 W → OwnCross W w.heap.size (.slice L ls.length cl) ls ∧ OwnI W w1.heap.size (.slice Z zs.length cz) zs ∧ OwnR W w2.heap.size (.slice P ps.length cp) ps ∧ OwnCross W w3.heap.size (.slice U us.length cu) us ∧ OwnCross W w4.heap.size (.slice R rs.length cr) rs ∧ Below w.heap.size w W from
    fun W hb => ⟨(O4.out.below b5).below hb, (Z4.out.below b5).below hb, (P4.out.below b5).below hb, (U4.out.below b5).below hb, r5.below hb, (B4.out.trans (b5.mono B4.out.size)).trans (hb.mono (B4.out.trans (b5.mono B4.out.size)).size)⟩)
  have hs5 : w.heap.size ≤ w5.heap.size := (KF.out _ (Below.refl _ _)).2.2.2.2.2.size
  clear b5 r5 O4 B4 Z4 P4 U4 C4
  have hol := HOL.out
  have hpl := HPL.out
  have hul := HUL.out
  have hm := HM.out
  have h35 : ((zs.length : Int) != (N : Int)) = false := by rw [hol]; simp
  have h41 : ((ps.length : Int) != (ls.length : Int)) = false := by rw [hpl]; simp
  have h48 : ((us.length : Int) != (ls.length : Int)) = false := by rw [hul]; simp
  have h63 : ¬ (ls.length : Int) < (rs.length : Int) := by omega
  have e70 : IntKind.i64.wrap ((ls.length : Int) - (rs.length : Int)) = (m : Int) * 2 := by rw [IntWalk.i64_in _ (by omega)]; omega
  clear hol hpl hul hm
  go_wp2_with fail
  refine (C5.out _ _ _ (KF.out _ (Below.refl _ _)).2.2.2.2.1).mono ?_
  rintro e w6 ⟨v6, rfl, z6, b6⟩
  obtain ⟨Y, cy, rfl⟩ := z6.slice
  have Z6 := Lib.hid z6
  have B6 := Lib.hid b6
  clear z6 b6 C5
  have hzl : zs.length ≤ 2000000 := by have := HOL.out; omega
  go_wp2_with fail
  refine (CS.out _ _ zs _ _ _ Z6.out (KF.out _ B6.out).2.1 hzl).mono ?_
  rintro e w7 ⟨rfl, b7⟩
  have B7 := Lib.hid (B6.out.trans (b7.mono B6.out.size))
  have hs7 := B7.out.size
  have E7 := Lib.hid (emptyCross w7 w7.heap.size w7.heap.size #[] rfl (Nat.le_refl _) rfl)
  have L7 := Lib.hid (KF.out _ B7.out).1
  have U7 := Lib.hid (KF.out _ B7.out).2.2.2.1
  have h9u : ls.length + us.length ≤ 4000000 := by have := HUL.out; omega
  clear b7 B6 Z6 hzl h35 h41 h48
  have e71 : Int.tmod ((m : Int) * 2) 2 = 0 := Int.mul_tmod_left _ _
  go_wp2_with (first | (have q_ := A8; at_builtin; refine wpList_rowsCross rfl (.tmp 76) (.tmp 77) rfl w7.heap.size w3.heap.size v8 (.slice U us.length cu) ls us rfl rfl A8.out U8.out ?_ ?_ ?_; (exact h9u); (exact hs8); intro v9 w9 o9 g9 hat9; have B9 := Lib.hid (mineCross B8.out hs8 A8.out g9); have A9 := Lib.hid o9; clear o9 g9 hat9) | (at_builtin; refine wpList_rowsCross rfl (.tmp 74) (.tmp 75) rfl w7.heap.size w.heap.size (.slice (some ⟨w7.heap.size, 0, none⟩) 0 0) (.slice L ls.length cl) [] ls rfl rfl E7.out (L7.out.alloc _) ?_ ?_ ?_; (simp; omega); (simp); intro v8 w8 o8 g8 hat8; replace o8 : OwnCross w8 w7.heap.size v8 ls := o8; have B8 := Lib.hid (mineCross ((Below.refl w7.heap.size w7).alloc (Nat.le_refl _) _) (by simp) E7.out g8); have hs8 := B8.out.size; have U8 := Lib.hid (U7.out.below B8.out); have A8 := Lib.hid o8; clear o8 g8 hat8))
  have B9' := Lib.hid (B7.out.trans (B9.out.mono hs7))
  obtain ⟨G, cg, e9⟩ := A9.out.slice
  rw [List.length_append] at e9
  subst e9
  clear B8 hs8 U8 A8 E7 L7 U7 B7 B9 hs7 e70 e71 h63 h9u
  refine (C6.out _ _ _ A9.out).mono ?_
  rintro e w10 ⟨v10, rfl, z10, b10⟩
  obtain ⟨X, cx, rfl⟩ := z10.slice
  have X10 := Lib.hid z10
  have A10 := Lib.hid (A9.out.below b10)
  have B10 := Lib.hid (B9'.out.trans (b10.mono B9'.out.size))
  clear z10 b10 C6 A9 B9'
  go_wp2_with fail
  refine (C7.out _).mono ?_
  rintro e w11 ⟨v11, rfl, z11, b11⟩
  obtain ⟨X2, cx2, rfl⟩ := z11.slice
  have Y11 := Lib.hid z11
  have X11 := Lib.hid (X10.out.below b11)
  have A11 := Lib.hid (A10.out.below b11)
  have B11 := Lib.hid (B10.out.trans (b11.mono B10.out.size))
  clear z11 b11 C7 A10 X10 B10
  go_wp2_with fail
  refine (CS.out _ _ es _ _ _ X11.out Y11.out (by omega)).mono ?_
  rintro e w12 ⟨rfl, b12⟩
  have A12 := Lib.hid (A11.out.below b12)
  have B12 := Lib.hid (B11.out.trans (b12.mono B11.out.size))
  clear b12 A11 X11 Y11 B11 CS
  go_wp2_with fail
  refine (C8.out _ _ _ A12.out).mono ?_
  rintro e w13 ⟨v13, rfl, z13, b13⟩
  obtain ⟨X3, cx3, rfl⟩ := z13.slice
  have B13 := Lib.hid (B12.out.trans (b13.mono B12.out.size))
  clear z13 b13 A12 B12 C8
  go_wp2_with fail
  go_loopw [10, 11] (fun fv iv wr => ∃ k : Nat, k ≤ N ∧ iv = .int .i64 (k : Int) ∧ fv = .int .i64 (frontBelow (k : Int) ps : Int) ∧ Hid (Below w5.heap.size w5 wr)) (fun _ iv _ => N - (intOf iv).toNat)
  case atStart => exact ⟨0, by omega, rfl, by rw [show ((0 : Nat) : Int) = 0 from rfl, frontBelow_zero]; rfl, B13⟩
  case round =>
    clear B13
    obtain ⟨k, hk, rfl, rfl, BW⟩ := hrel
    by_cases hlt : k < N
    · have hk0 : (0 : Int) ≤ (k : Int) := by omega
      have hk1 : (k : Int) < (N : Int) := by omega
      have C14 := Lib.hid (C9.out k hk1 _ (KF.out _ BW.out).1)
      have FM := Lib.hid (frontBelow_more k ps)
      have f1 := front_le (k : Int) ps ps.length
      have f2 := below_le (k : Int) ps
      have f3 := HPL.out
      generalize frontTo (k : Int) ps ps.length = x at C14 FM f1
      generalize frontBelow (k : Int) ps = y at FM f2
      have e1 : IntKind.i64.wrap ((y : Int) + (x : Int)) = (y : Int) + (x : Int) := IntWalk.i64_in _ (by omega)
      clear f3
      go_wp2_with fail
      refine C14.out.mono ?_
      rintro e w6 ⟨rfl, b6⟩
      have B6 := Lib.hid (BW.out.trans (b6.mono BW.out.size))
      clear b6 C14
      go_wp2
      exact ⟨⟨k + 1, by omega, by go_num, by rw [FM.out]; simp, B6⟩, by simp [intOf]; omega⟩
    obtain rfl : k = N := by omega
    clear C9 hk hlt
    rw [FA.out]
    have hp9 : ps.length ≤ 9 := by have := HPL.out; omega
    go_wp2_with fail
    go_loopw [12] (fun iv wr => ∃ k : Nat, k ≤ ps.length ∧ iv = .int .i64 (k : Int) ∧ Hid (Below w5.heap.size w5 wr)) (fun iv _ => ps.length - (intOf iv).toNat)
    case atStart => exact ⟨0, by omega, rfl, BW⟩
    case round =>
      clear BW
      obtain ⟨i, hk, rfl, BW⟩ := hrel
      by_cases hlt : i < ps.length
      · have hk0 : (0 : Int) ≤ (i : Int) := by omega
        have hk1 : (i : Int) < (ps.length : Int) := by omega
        obtain ⟨x, y, hxy, hne, hx, hy⟩ := PR.out i hlt
        obtain ⟨g, c, A, c', f1, z0, _, q0⟩ := (KF.out _ BW.out).2.2.1.spot hlt
        simp only [Value.slice.injEq] at f1
        obtain ⟨rfl, -, rfl⟩ := f1
        rw [hxy] at z0 q0
        obtain ⟨gq, cq, f2, _, _, q1, _⟩ := q0.spot (k := 0) (by simp)
        simp only [Value.slice.injEq] at f2
        obtain ⟨rfl, -, rfl⟩ := f2
        obtain ⟨gq2, cq2, f2, _, _, q2, _⟩ := q0.spot (k := 1) (by simp)
        simp only [Value.slice.injEq, Option.some.injEq, Addr.mk.injEq] at f2
        obtain ⟨⟨rfl, -⟩, -⟩ := f2
        simp only [List.getElem_cons_zero, List.getElem_cons_succ] at q1 q2
        replace z0 : wr.cell? ⟨g, i, none⟩ = some (.slice (some ⟨gq, 0, none⟩) 2 c') := z0
        have d1 : (x == y) = false := by simpa using hne
        have d2 : decide (x < 0) = false := decide_eq_false (by omega)
        have d3 : decide ((k : Int) ≤ x) = false := decide_eq_false (by omega)
        have d4 : decide (y < 0) = false := decide_eq_false (by omega)
        have d5 : decide ((k : Int) ≤ y) = false := decide_eq_false (by omega)
        clear hxy q0
        go_wp2
        go_quiet (fail)
        go_wp2
        exact ⟨⟨i + 1, by omega, by go_num, Lib.hid (below_drewN BW.out _)⟩, by simp [intOf]; omega⟩
      obtain rfl : i = ps.length := by omega
      clear PR hk hlt
      have h1r : rs.length ≤ 9 := by have := HM.out; omega
      go_wp2_with fail
      go_loopw [13] (fun iv wr => ∃ j : Nat, 1 ≤ j ∧ (j ≤ rs.length ∨ j = 1) ∧ iv = .int .i64 (j : Int) ∧ Hid (Below w5.heap.size w5 wr)) (fun iv _ => rs.length - (intOf iv).toNat)
      case atStart => exact ⟨1, by omega, .inr rfl, rfl, BW⟩
      case round =>
        clear BW
        obtain ⟨j, hj1, hj2, rfl, BW⟩ := hrel
        by_cases hlt : j < rs.length
        · obtain ⟨i, hji⟩ : ∃ i, j = i + 1 := ⟨j - 1, by omega⟩
          have hi : i < rs.length := by omega
          have hk0 : (0 : Int) ≤ (j : Int) := by omega
          have hk1 : (j : Int) < (rs.length : Int) := by omega
          have hk2 : (0 : Int) ≤ (i : Int) := by omega
          have hk3 : (i : Int) < (rs.length : Int) := by omega
          have e1 : IntKind.i64.wrap ((j : Int) - 1) = (i : Int) := by rw [IntWalk.i64_in _ (by omega)]; omega
          have np : undoes rs[i] rs[j] = false := by subst hji; exact NP.out i hlt
          obtain ⟨g, _, f1, _, _, z0, _⟩ := (KF.out _ BW.out).2.2.2.2.1.spot hlt
          simp only [Value.slice.injEq] at f1
          obtain ⟨rfl, -, rfl⟩ := f1
          obtain ⟨g2, _, f1, _, _, z1, _⟩ := (KF.out _ BW.out).2.2.2.2.1.spot hi
          simp only [Value.slice.injEq, Option.some.injEq, Addr.mk.injEq] at f1
          obtain ⟨⟨rfl, -⟩, -⟩ := f1
          have r0 : wr.cell? ⟨g, j * 2, none⟩ = some (.int .i64 rs[j].f0) := z0 0 _ rfl
          have r1 : wr.cell? ⟨g, j * 2 + 1, none⟩ = some (.bool rs[j].f1) := z0 1 _ rfl
          have s0 : wr.cell? ⟨g, i * 2, none⟩ = some (.int .i64 rs[i].f0) := z1 0 _ rfl
          have s1 : wr.cell? ⟨g, i * 2 + 1, none⟩ = some (.bool rs[i].f1) := z1 1 _ rfl
          unfold undoes at np
          generalize rs[j].f0 = x at r0 np
          generalize rs[j].f1 = y at r1 np
          generalize rs[i].f0 = x2 at s0 np
          generalize rs[i].f1 = y2 at s1 np
          have HJI := Lib.hid hji
          clear z0 z1 hji
          have LAST := Lib.hid (show ∀ q, Below w5.heap.size w5 (wr.drewN q) from fun q => below_drewN BW.out q)
          by_cases hx : x = x2
          · subst hx
            have hy : y2 = y := by
              cases y <;> cases y2 <;> simp_all
            subst hy
            clear np
            go_wp2
            go_quiet (fail)
            go_wp2
            exact ⟨⟨j + 1, by omega, .inl (by omega), by go_num, Lib.hid (LAST.out _)⟩, by simp [intOf]; omega⟩
          · have hxx : (x == x2) = false := by simpa using hx
            clear np hx
            go_wp2
            go_quiet (fail)
            go_wp2
            exact ⟨⟨j + 1, by omega, .inl (by omega), by go_num, Lib.hid (LAST.out _)⟩, by simp [intOf]; omega⟩
        · have hlt2 : ¬ (j : Int) < (rs.length : Int) := by omega
          have hfl : ((ps.length : Int) == (ls.length : Int)) = true := by rw [HPL.out]; simp
          clear hlt hj2
          go_wp2_with fail
          refine (C10.out _ (KF.out _ BW.out).1).mono ?_
          rintro e w7 ⟨rfl, b7⟩
          have B7 := Lib.hid ((KF.out _ BW.out).2.2.2.2.2.trans (b7.mono (KF.out _ BW.out).2.2.2.2.2.size))
          clear b7
          go_wp2
          go_ret
          exact ⟨rfl, B7.out⟩
end Go.Proofs.Ytbcibgibcojoeaa
