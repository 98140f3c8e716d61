/- The law FnHands, walked over the contracts of the program's functions. No condition. -/
import Derived.Test.YtbgogcobkiaejaaHaxM
import Derived.Test.YtbgogcobkiaejaaHasW
import Derived.Test.YtbgogcobkiaejaaGodP
import Derived.Test.YtbgogcobkiaejaaLstP
import Derived.Test.YtbgogcobkiaejaaPlayerL
import Derived.Test.YtbgogcobkiaejaaIntB
import Derived.Test.YtbgogcobkiaejaaHanI
import Derived.BigQuiet
namespace Go.Proofs.Ytbgogcobkiaejaa
set_option linter.unusedVariables false
set_option linter.unusedSimpArgs false
open Go.RowKit

theorem sumC_small {x : List Int} (h : x.length ≤ 7) : ∀ k : Nat, 0 ≤ sumC x k ∧ sumC x k ≤ 7 * (k : Int) := by
  intro k
  induction k with
  | zero => rw [sumC]; omega
  | succ k ih => have := cntI_small x (k : Int) x.length; rw [sumC]; omega
/- HYPOTHESES -/
set_option maxRecDepth 100000 in
set_option maxHeartbeats 3200000 in
theorem FnHands_walk (a : Option Addr) (n cap : Nat) (z : List Int) (w : World) (hr : IsRow .u8 w a n cap z) :
    Calls Try.prog 3 #[.slice a n cap] w fun e w' => e = .returned (.bool true) ∧ Below w.heap.size w w' := by
  have hm := row_len hr
  by_cases hn : 1048576 < n
  · clear hr
    go_enter Try.func3, Try.ntmps3
    go_wp2_with fail
    refine (big_yes a n cap w hn hm).mono ?_
    rintro e w' ⟨rfl, rfl⟩
    go_wp2
    go_ret
    exact ⟨rfl, Below.refl _ _⟩
  have CD := Lib.hid (drawPlayers_any a n cap z w hr (by omega))
  clear hr
  go_enter Try.func3, Try.ntmps3
  go_wp2_with fail
  refine (big_no a n cap w (by omega)).mono ?_
  rintro e w' ⟨rfl, rfl⟩
  go_wp2_with fail
  refine CD.out.mono ?_
  rintro e w1 ⟨vl, vu, ls, ps, rfl, o1, u1, hl, hg, ha, b1⟩
  obtain ⟨L, cl, rfl⟩ := o1.slice
  obtain ⟨U, cu, rfl⟩ := u1.slice
  have O1 := Lib.hid o1
  have U1 := Lib.hid u1
  have B1 := Lib.hid b1
  have hok := good_players hg hl
  have hp6 : ps.length ≤ 6 := asc_len (m := 6) ha
  have HF := Lib.hid (handFacts hok (asc_rising ha (show (6 : Int) ≤ 6 + 1 by omega)))
  have hl2 : ls.length ≤ 2000000 := by omega
  have hrw : ∀ k (hk : k < ls.length), ls[k].f0.length ≤ 2000000 := fun k hk => by have := asc_len (m := 6) (hg _ (List.getElem_mem hk)).2; omega
  have CF := Lib.hid (fun W h u => implFst (.slice L ls.length cl) ls w.heap.size W h hl2 hrw (.slice U ps.length cu) ps w.heap.size u (by omega))
  have CH := Lib.hid (fun W h => implHfr (.slice L ls.length cl) ls w.heap.size W h hl2 hrw)
  have CW := Lib.hid (fun x W h => implWho (.slice L ls.length cl) ls w.heap.size W h hl2 hrw x)
  have CL := Lib.hid (fun v zs b W h h2 hz => implLoa (.slice L ls.length cl) ls w.heap.size W h hl2 hrw v zs b h2 hz)
  have CC := Lib.hid (fun v zs b v3 cs b3 W h h2 hz h3 hc => implCas (.slice L ls.length cl) ls w.heap.size W h hl2 hrw v zs b h2 hz v3 cs b3 h3 hc)
  have CK := Lib.hid (fun W (h : OwnPlayer W w.heap.size (.slice L ls.length cl) ls) => (show Calls Try.prog 18 #[.slice L ls.length cl] W (fun e w' => e = .returned (.bool true) ∧ Below W.heap.size W w') from by have q := implPOk (.slice L ls.length cl) ls w.heap.size W h hl2 hrw; rw [hok] at q; exact q))
  have CE := Lib.hid (fun W (h : OwnPlayer W w.heap.size (.slice L ls.length cl) ls) => (show Calls Try.prog 14 #[.slice L ls.length cl, .slice none 0 0, .slice none 0 0] W (fun e w' => e = .returned (.bool true) ∧ Below W.heap.size W w') from by
    have q := implCas (.slice L ls.length cl) ls w.heap.size W h hl2 hrw (.slice none 0 0) [] 0 ⟨rfl, .inl ⟨rfl, rfl⟩⟩ (by simp) (.slice none 0 0) [] 0 ⟨rfl, .inl ⟨rfl, rfl⟩⟩ (by simp)
    rw [HF.out.empty] at q
    exact q))
  have hn5 := hl.2
  have FR := HF.out.free.2
  have FB := hands_small hok ls.length (Nat.le_refl _)
  rw [← HF.out.free.1] at FB
  clear o1 u1 b1 CD hm hn hok hg ha hl2 hrw hl
  cases hfc : firstCast ls ps with
  | none =>
    have CF2 := Lib.hid (fun W (h : OwnPlayer W w.heap.size (.slice L ls.length cl) ls) u => (show Calls Try.prog 12 #[.slice L ls.length cl, .slice U ps.length cu] W (IntsB W ([], false)) from by have q := CF.out W h u; rw [hfc] at q; exact q))
    clear CF hfc CL CC
    go_wp2_with fail
    refine (CF2.out _ O1.out U1.out).mono ?_
    rintro e w2 ⟨v2, rfl, o2, b2⟩
    replace o2 : OwnI w2 w1.heap.size v2 [] := o2
    obtain ⟨X, cx, rfl⟩ := o2.slice
    simp only [List.length_nil]
    have O2 := Lib.hid (O1.out.below b2)
    have U2 := Lib.hid (U1.out.below b2)
    have B2 := Lib.hid (B1.out.trans (b2.mono B1.out.size))
    clear o2 b2 O1 U1 B1 CF2
    go_wp2_with fail
    refine (CH.out _ O2.out).mono ?_
    rintro e w3 ⟨rfl, b3⟩
    have O3 := Lib.hid (O2.out.below b3)
    have U3 := Lib.hid (U2.out.below b3)
    have B3 := Lib.hid (B2.out.trans (b3.mono B2.out.size))
    clear b3 O2 U2 B2 CH HF
    generalize handsFree ls = nf at FR FB
    have d0 : decide (nf < 0) = false := decide_eq_false (by omega)
    go_wp2_with fail
    go_loopw [11] (fun kv wr => ∃ k : Nat, k ≤ ps.length ∧ kv = .int .i64 (k : Int) ∧ Hid (OwnPlayer wr w.heap.size (.slice L ls.length cl) ls ∧ OwnI wr w.heap.size (.slice U ps.length cu) ps ∧ Below w.heap.size w wr)) (fun kv _ => ps.length - (intOf kv).toNat)
    case atStart => exact ⟨0, by omega, rfl, Lib.hid ⟨O3.out, U3.out, B3.out⟩⟩
    case round =>
      clear O3 U3 B3
      obtain ⟨k, hk, rfl, HW⟩ := hrel
      by_cases hlt : k < ps.length
      rotate_left
      · obtain rfl : k = ps.length := by omega
        have HB := HW.out.2.2.size
        go_wp2_with fail
        refine (CK.out _ HW.out.1).mono ?_
        rintro e w4 ⟨rfl, b4⟩
        have O4 := Lib.hid (HW.out.1.below b4)
        have B4 := Lib.hid (HW.out.2.2.trans (b4.mono HB))
        clear b4 HW
        go_wp2_with fail
        refine (CE.out _ O4.out).mono ?_
        rintro e w5 ⟨rfl, b5⟩
        have B5 := Lib.hid (B4.out.trans (b5.mono B4.out.size))
        clear b5
        go_wp2
        go_ret
        exact ⟨rfl, B5.out⟩
      have hk0 : (0 : Int) ≤ (k : Int) := by omega
      have hk1 : (k : Int) < (ps.length : Int) := by omega
      obtain ⟨gu, _, e1, -, -, y0, -⟩ := HW.out.2.1.spot hlt
      simp only [Value.slice.injEq] at e1
      obtain ⟨rfl, -, rfl⟩ := e1
      have HB := HW.out.2.2.size
      generalize ps[k] = pk at y0
      go_wp2_with fail
      refine (CW.out _ _ HW.out.1).mono ?_
      rintro e w4 ⟨v4, rfl, o4, b4⟩
      obtain ⟨Q, cq, rfl⟩ := o4.slice
      have H4 := Lib.hid (show OwnPlayer w4 w.heap.size (.slice L ls.length cl) ls ∧ OwnI w4 w.heap.size (.slice (some ⟨gu, 0, none⟩) ps.length cu) ps ∧ Below w.heap.size w w4 from ⟨HW.out.1.below b4, HW.out.2.1.below b4, HW.out.2.2.trans (b4.mono HB)⟩)
      clear b4 o4 HW y0
      generalize (whoKnows ls pk).length = qn
      by_cases hq : qn = 0
      · subst hq
        go_wp2
        exact ⟨⟨k + 1, by omega, by go_num, H4⟩, by simp [intOf]; omega⟩
      · have hq1 : ((qn : Int) == 0) = false := by simp; exact hq
        go_wp2
        exact ⟨⟨k + 1, by omega, by go_num, H4⟩, by simp [intOf]; omega⟩
  | some x =>
    obtain ⟨f1, f2, f3, f4, f5, f6, f7⟩ := HF.out.found x hfc
    have CF2 := Lib.hid (fun W (h : OwnPlayer W w.heap.size (.slice L ls.length cl) ls) u => (show Calls Try.prog 12 #[.slice L ls.length cl, .slice U ps.length cu] W (IntsB W (x, true)) from by have q := CF.out W h u; rw [hfc] at q; exact q))
    have CC2 := Lib.hid (fun v3 b3 W (h : OwnPlayer W w.heap.size (.slice L ls.length cl) ls) (u : OwnI W w.heap.size (.slice U ps.length cu) ps) (h3 : OwnI W b3 v3 x) => (show Calls Try.prog 14 #[.slice L ls.length cl, .slice U ps.length cu, v3] W (fun e w' => e = .returned (.bool true) ∧ Below W.heap.size W w') from by
      have q := CC.out _ _ _ _ _ _ W h u (by omega) h3 (by omega)
      rw [f1] at q
      exact q))
    have CL2 := Lib.hid (fun v3 b3 W (h : OwnPlayer W w.heap.size (.slice L ls.length cl) ls) (h3 : OwnI W b3 v3 x) => (show Calls Try.prog 15 #[.slice L ls.length cl, v3] W (IntsPost W (loadTo x ls.length)) from by
      have q := CL.out _ _ _ W h h3 (by omega)
      rw [f5] at q
      exact q))
    have F6 := Lib.hid f6
    have F7 := Lib.hid f7
    have SS := Lib.hid (sumC_small (x := x) (by omega))
    have SN := Lib.hid (fun k : Nat => show sumC x (k + 1) = sumC x k + cntI x (k : Int) x.length from rfl)
    have LL := Lib.hid (load_len x ls.length)
    have LA := Lib.hid (fun k (hk : k < ls.length) => load_at x ls.length k hk)
    have XL := Lib.hid f2
    clear CF hfc CL CC f1 f5 f6 f7 HF
    go_wp2_with fail
    refine (CF2.out _ O1.out U1.out).mono ?_
    rintro e w2 ⟨v2, rfl, o2, b2⟩
    replace o2 : OwnI w2 w1.heap.size v2 x := o2
    obtain ⟨X, cx, e2⟩ := o2.slice
    rw [f2] at e2
    subst e2
    have X2 := Lib.hid (o2.mono B1.out.size)
    have O2 := Lib.hid (O1.out.below b2)
    have U2 := Lib.hid (U1.out.below b2)
    have B2 := Lib.hid (B1.out.trans (b2.mono B1.out.size))
    clear o2 b2 O1 U1 B1 CF2 f2
    go_wp2_with fail
    refine (CH.out _ O2.out).mono ?_
    rintro e w3 ⟨rfl, b3⟩
    have X3 := Lib.hid (X2.out.below b3)
    have O3 := Lib.hid (O2.out.below b3)
    have U3 := Lib.hid (U2.out.below b3)
    have B3 := Lib.hid (B2.out.trans (b3.mono B2.out.size))
    clear b3 O2 U2 B2 X2 CH
    generalize handsFree ls = nf at FR FB f3
    have d0 : decide (nf < 0) = false := decide_eq_false (by omega)
    have d1 : decide (nf < (ps.length : Int)) = false := decide_eq_false (by omega)
    go_wp2_with fail
    refine (CC2.out _ _ _ O3.out U3.out X3.out).mono ?_
    rintro e w4 ⟨rfl, b4⟩
    have X4 := Lib.hid (X3.out.below b4)
    have O4 := Lib.hid (O3.out.below b4)
    have U4 := Lib.hid (U3.out.below b4)
    have B4 := Lib.hid (B3.out.trans (b4.mono B3.out.size))
    clear b4 O3 U3 B3 X3 CC2
    go_wp2_with fail
    refine (CL2.out _ _ _ O4.out X4.out).mono ?_
    rintro e w5 ⟨v5, rfl, o5, b5⟩
    obtain ⟨G, cg, e5⟩ := o5.slice
    rw [LL.out] at e5
    subst e5
    have G5 := Lib.hid (o5.mono B4.out.size)
    have X5 := Lib.hid (X4.out.below b5)
    have O5 := Lib.hid (O4.out.below b5)
    have U5 := Lib.hid (U4.out.below b5)
    have B5 := Lib.hid (B4.out.trans (b5.mono B4.out.size))
    clear o5 b5 O4 U4 B4 X4 CL2
    have FF := Lib.hid (fun W (hb : Below w5.heap.size w5 W) => (show OwnPlayer W w.heap.size (.slice L ls.length cl) ls ∧ OwnI W w.heap.size (.slice U ps.length cu) ps ∧ OwnI W w.heap.size (.slice X ps.length cx) x ∧ OwnI W w.heap.size (.slice G ls.length cg) (loadTo x ls.length) ∧ Below w.heap.size w W from ⟨O5.out.below hb, U5.out.below hb, X5.out.below hb, G5.out.below hb, B5.out.trans (hb.mono B5.out.size)⟩))
    clear O5 U5 X5 G5 B5
    go_wp2_with fail
    go_loopw [9, 10] (fun sv kv wr => ∃ k : Nat, k ≤ ls.length ∧ sv = .int .i64 (sumC x k) ∧ kv = .int .i64 (k : Int) ∧ Hid (Below w5.heap.size w5 wr)) (fun _ kv _ => ls.length - (intOf kv).toNat)
    case atStart => exact ⟨0, by omega, rfl, rfl, Lib.hid (Below.refl _ _)⟩
    case round =>
      obtain ⟨k, hk, rfl, rfl, BW⟩ := hrel
      by_cases hlt : k < ls.length
      rotate_left
      · obtain rfl : k = ls.length := by omega
        rw [f4]
        go_wp2_with fail
        go_loopw [11] (fun kv wq => ∃ k : Nat, k ≤ ps.length ∧ kv = .int .i64 (k : Int) ∧ Hid (Below w5.heap.size w5 wq)) (fun kv _ => ps.length - (intOf kv).toNat)
        case atStart => exact ⟨0, by omega, rfl, BW⟩
        case round =>
          clear BW
          obtain ⟨k, hk, rfl, BW⟩ := hrel
          obtain ⟨O6, U6, X6, -, B6⟩ := FF.out _ BW.out
          by_cases hlt : k < ps.length
          rotate_left
          · obtain rfl : k = ps.length := by omega
            have HO := Lib.hid O6
            have HB := Lib.hid B6
            clear O6 U6 X6 B6
            go_wp2_with fail
            refine (CK.out _ HO.out).mono ?_
            rintro e w7 ⟨rfl, b7⟩
            have O7 := Lib.hid (HO.out.below b7)
            have B7 := Lib.hid (HB.out.trans (b7.mono HB.out.size))
            clear b7 HO HB
            go_wp2_with fail
            refine (CE.out _ O7.out).mono ?_
            rintro e w8 ⟨rfl, b8⟩
            have B8 := Lib.hid (B7.out.trans (b8.mono B7.out.size))
            clear b8
            go_wp2
            go_ret
            exact ⟨rfl, B8.out⟩
          have hk0 : (0 : Int) ≤ (k : Int) := by omega
          have hk1 : (k : Int) < (ps.length : Int) := by omega
          have gA : ∀ (zs : List Int) t (ht : t < zs.length), zs[t] = zs.getD t 0 := fun zs t ht => by rw [List.getD_eq_getElem?_getD, List.getElem?_eq_getElem ht]; rfl
          obtain ⟨gu, _, e1, -, -, y0, -⟩ := U6.spot hlt
          simp only [Value.slice.injEq] at e1
          obtain ⟨rfl, -, rfl⟩ := e1
          obtain ⟨gx, _, e1, -, -, y1, -⟩ := X6.spot (k := k) (by rw [XL.out]; exact hlt)
          simp only [Value.slice.injEq] at e1
          obtain ⟨rfl, -, rfl⟩ := e1
          rw [gA] at y0 y1
          have MM := Lib.hid (F7.out k hlt)
          have HO := Lib.hid O6
          have Y1 := Lib.hid (fun W (hb : Below wr.heap.size wr W) => cell_below y1 hb)
          generalize ps.getD k 0 = pk at y0 MM
          clear O6 U6 X6 B6 gA y1
          go_wp2_with fail
          refine (CW.out _ _ HO.out).mono ?_
          rintro e w7 ⟨v7, rfl, o7, b7⟩
          obtain ⟨Q, cq, rfl⟩ := o7.slice
          have B7 := Lib.hid (BW.out.trans (b7.mono BW.out.size))
          have y1 := Y1.out _ b7
          have hql : (whoKnows ls pk).length ≤ 2000000 := whoKnows_len ls pk
          have HA := Lib.hid (has_any (.slice Q (whoKnows ls pk).length cq) (whoKnows ls pk) (x.getD k 0) _ w7 o7 hql)
          have hx : hasL (whoKnows ls pk) (x.getD k 0) = true := by simpa [hasL] using MM.out
          rw [hx] at HA
          have hq1 : (((whoKnows ls pk).length : Int) == 0) = false := by
            have := List.length_pos_of_mem MM.out
            simp
            intro e
            rw [e] at this
            simp at this
          generalize (whoKnows ls pk).length = qn at HA hq1 hql
          generalize x.getD k 0 = xk at HA y1
          clear b7 o7 HO Y1 hx y0 MM
          go_wp2_with fail
          refine HA.out.mono ?_
          rintro e w8 ⟨rfl, rfl⟩
          go_wp2
          exact ⟨⟨k + 1, by omega, by go_num, B7⟩, by simp [intOf]; omega⟩
      have hk0 : (0 : Int) ≤ (k : Int) := by omega
      have hk1 : (k : Int) < (ls.length : Int) := by omega
      have gA : ∀ (zs : List Int) t (ht : t < zs.length), zs[t] = zs.getD t 0 := fun zs t ht => by rw [List.getD_eq_getElem?_getD, List.getElem?_eq_getElem ht]; rfl
      obtain ⟨O6, -, -, G6, -⟩ := FF.out _ BW.out
      obtain ⟨gg, _, e1, -, -, y0, -⟩ := G6.spot (k := k) (by rw [LL.out]; exact hlt)
      simp only [Value.slice.injEq] at e1
      obtain ⟨rfl, -, rfl⟩ := e1
      obtain ⟨gl, _, A1, c1, e1, -, ⟨-, y1⟩, -⟩ := O6.spot hlt
      simp only [Value.slice.injEq] at e1
      obtain ⟨rfl, -, rfl⟩ := e1
      rw [gA, LA.out k hlt] at y0
      have f6 := F6.out k hlt
      unfold fr at f6
      rw [getP hlt] at f6
      have s0 := SS.out k
      have s1 := SS.out (k + 1)
      rw [SN.out k] at s1
      have SX := Lib.hid (SN.out k)
      generalize cntI x (k : Int) x.length = ck at y0 f6 SX s1
      generalize ls[k].f1 = fk at y1 f6
      generalize sumC x k = sk at s0 s1 SX ⊢
      have d2 : decide (fk < ck) = false := decide_eq_false (by omega)
      have ew : IntKind.i64.wrap (sk + ck) = sk + ck := IntWalk.i64_in _ (by omega)
      clear O6 G6 gA
      go_wp2_with fail
      go_quiet (fail)
      have WD := Lib.hid (BW.out.trans ((below_drewN (Below.refl wr.heap.size wr) nq).mono BW.out.size))
      go_wp2
      exact ⟨⟨k + 1, by omega, by rw [SX.out], by go_num, WD⟩, by simp [intOf]; omega⟩
end Go.Proofs.Ytbgogcobkiaejaa
