/- The law FnUntwisting, walked over the contracts of the program's functions. No condition. -/
import Derived.Test.YthijfipjfdmoeaaPk9
import Derived.Test.YthijfipjfdmoeaaDrwH
import Derived.Test.YthijfipjfdmoeaaByteAt
import Derived.Test.YthijfipjfdmoeaaSameN
import Derived.Test.YthijfipjfdmoeaaPk4
import Derived.Test.YthijfipjfdmoeaaPk10
import Derived.BigQuiet
namespace Go.Proofs.Ythijfipjfdmoeaa
set_option linter.unusedVariables false
set_option linter.unusedSimpArgs false
open Go.RowKit

theorem row_below {w w' : World} {a : Option Addr} {n cap : Nat} {z : List Int} (h : IsRow .u8 w a n cap z) (hb : Below w.heap.size w w') : IsRow .u8 w' a n cap z := by
  rcases h with h | ⟨x, e, h1, h2, h3, h4, h5⟩
  · exact .inl h
  · exact .inr ⟨x, e, h1, h2, h3, fun i hi => cell_below (h4 i hi) hb, h5⟩
/- HYPOTHESES -/
set_option maxRecDepth 100000 in
set_option maxHeartbeats 3200000 in
theorem FnUntwisting_walk (a : Option Addr) (n cap : Nat) (z : List Int) (w : World) (hr : IsRow .u8 w a n cap z) :
    Calls Try.prog 3 #[.slice a n cap] w fun e w' => e = .returned (.bool true) ∧ Below w.heap.size w w' := by
  have hm := row_len hr
  by_cases hn : 1048576 < n
  · clear hr
    go_enter Try.func3, Try.ntmps3
    go_wp2_with fail
    refine (big_yes a n cap w hn hm).mono ?_
    rintro e w' ⟨rfl, rfl⟩
    go_wp2
    go_ret
    exact ⟨rfl, Below.refl _ _⟩
  have CD := Lib.hid (drawHome_any a n cap z w hr (by omega))
  have CX := Lib.hid (fun W (hb : Below w.heap.size w W) => drawCrosses_any a n cap z W (row_below hr hb) (by omega))
  have AT := Lib.hid (fun (i : Nat) (hi : i ≤ 1000) W hb => at_any a n cap z w W hr hb i hi (by omega))
  clear hr
  go_enter Try.func3, Try.ntmps3
  go_wp2_with fail
  refine (big_no a n cap w (by omega)).mono ?_
  rintro e w' ⟨rfl, rfl⟩
  go_wp2_with fail
  refine CD.out.mono ?_
  rintro e w1 ⟨N, vl, ls, rfl, hN, o1, hl34, hok, hh, b1⟩
  obtain ⟨L, cl, rfl⟩ := o1.slice
  have O1 := Lib.hid o1
  have B1 := Lib.hid b1
  clear o1 b1 CD hm hn
  obtain ⟨U1, U2⟩ := unwound hN.1 hok hh
  have HN := Lib.hid (home_none hok hh)
  have C1 := Lib.hid (fun W h => U1 ▸ implUnw (N : Int) (.slice L ls.length cl) ls w.heap.size W h (by omega))
  have HU := Lib.hid U2
  have hul := unwTo_len (N : Int) ls (woundPs (N : Int) ls).length
  have hwl := woundPs_len (N : Int) ls
  have C9 := Lib.hid (fun W h => HN.out ▸ implHome (N : Int) (.slice L ls.length cl) ls w.heap.size W h (by omega))
  have hub : (unwTo (N : Int) ls (woundPs (N : Int) ls).length).length ≤ 20000 := by omega
  clear U1 U2 hul hwl hh hok HN
  generalize unwTo (N : Int) ls (woundPs (N : Int) ls).length = u at C1 HU hub
  go_wp2_with fail
  refine (C1.out _ O1.out).mono ?_
  rintro e w2 ⟨vu, rfl, u2, b2⟩
  dsimp only at u2
  obtain ⟨U, cu, rfl⟩ := u2.slice
  have U2 := Lib.hid u2
  have O2 := Lib.hid (O1.out.below b2)
  have B2 := Lib.hid (B1.out.trans (b2.mono B1.out.size))
  clear u2 b2 O1 B1 C1
  dsimp only
  go_wp2_with fail
  refine (implJoin _ _ ls u _ _ _ O2.out U2.out (by omega) (by omega)).mono ?_
  rintro e w3 ⟨vj, rfl, j3, b3⟩
  obtain ⟨J, cj, e3⟩ := j3.slice
  rw [List.length_append] at e3
  subst e3
  have J3 := Lib.hid j3
  have O3 := Lib.hid (O2.out.below b3)
  have B3 := Lib.hid (B2.out.trans (b3.mono B2.out.size))
  have e4 : IntKind.i64.wrap ((ls.length : Int) + (u.length : Int)) = (ls.length : Int) + (u.length : Int) := IntWalk.i64_in _ (by omega)
  clear j3 b3 O2 U2 B2
  by_cases h40 : ls.length + u.length ≤ 40
  case' pos =>
    have h41 : (ls.length : Int) + (u.length : Int) ≤ 40 := by omega
    have CI := Lib.hid (HU.out (by rw [List.length_append]; omega) ▸ specUnt (N : Int) (.slice J (ls.length + u.length) cj) (ls ++ u) _ w3 J3.out (by rw [List.length_append]; omega))
    go_wp2_with fail
    refine CI.out.mono ?_
    rintro e w4 ⟨rfl, b4⟩
    have O4 := Lib.hid (O3.out.below b4)
    have B4 := Lib.hid (B3.out.trans (b4.mono B3.out.size))
    clear b4 CI HU J3 O3 B3 h40 e4
  case' neg =>
    have h41 : ¬ (ls.length : Int) + (u.length : Int) ≤ 40 := by omega
    have O4 := Lib.hid O3.out
    have B4 := Lib.hid B3.out
    clear HU J3 O3 B3 h40
  all_goals
    go_wp2_with fail
    refine (AT.out 0 (by omega) _ B4.out).mono ?_
    rintro e w5 ⟨x, rfl, ⟨hx0, hx1⟩, rfl⟩
    obtain ⟨p, hp, hpl⟩ := rem_nat (m := N - 1) hx0 (by omega)
    have eN : IntKind.i64.wrap ((N : Int) - 1) = ((N - 1 : Nat) : Int) := by rw [IntWalk.i64_in _ (by omega)]; omega
    have hmp : (0 : Int) < ((N - 1 : Nat) : Int) := by omega
    obtain ⟨k, hk, e1⟩ : ∃ k : Nat, (1 ≤ k ∧ k < N) ∧ IntKind.i64.wrap (1 + (p : Int)) = (k : Int) := ⟨p + 1, by omega, by rw [IntWalk.i64_in _ (by omega)]; omega⟩
    go_wp2_with fail
    refine (AT.out 1 (by omega) _ B4.out).mono ?_
    rintro e w6 ⟨y, rfl, ⟨hy0, hy1⟩, rfl⟩
    obtain ⟨i, hi, hik⟩ := rem_nat (m := k) hy0 hk.1
    have hkp : (0 : Int) < (k : Int) := by omega
    obtain ⟨T1, T2⟩ := turnAll (N := N) (i := i) (k := k) ⟨hN.1, by omega⟩ hik hk.2
    have CF := Lib.hid (fun W => T1 ▸ implFull (N : Int) (i : Int) (k : Int) true W)
    have hlen := T2.len
    obtain ⟨d, hd⟩ : ∃ d, d = k - i := ⟨_, rfl⟩
    rw [← hd] at hlen
    have hd7 : d ≤ 7 := by omega
    have e2 : IntKind.i64.wrap ((k : Int) - (i : Int)) = (d : Int) := by rw [IntWalk.i64_in _ (by omega)]; omega
    have e3 : IntKind.i64.wrap (2 * (d : Int)) = 2 * (d : Int) := IntWalk.i64_in _ (by omega)
    have ST := Lib.hid (fun v b W h => specTab (N : Int) v (turnL i k true) b W h (by rw [hlen]; omega))
    have SO := Lib.hid (fun v b W h => specOrdA (N : Int) v (turnL i k true) b W h (by rw [hlen]; omega))
    have SI := Lib.hid (fun v b W h => (show Calls Try.prog 16 #[v] W fun e w' => e = .returned (.int .i64 0) ∧ Below W.heap.size W w' from by
      have q := specInv v (ordAfter (N : Int) (turnL i k true)) b W h (by have := ordAfter_len (N : Int) (turnL i k true); omega)
      rwa [show (if orderOk (ordAfter (N : Int) (turnL i k true)) = true then (invs (ordAfter (N : Int) (turnL i k true)) : Int) else -1) = 0 from T2.inv] at q))
    have SQ := Lib.hid T2.sq
    have TW := Lib.hid T2.twist
    clear T1 T2 hd
    generalize twistTab (N : Int) (turnL i k true) = t at ST SQ TW
    generalize ordAfter (N : Int) (turnL i k true) = to at SO SI
    generalize turnL i k true = T at CF hlen ST SO
    go_wp2_with fail
    refine (CF.out _).mono ?_
    rintro e w7 ⟨vt, rfl, t7, b7⟩
    dsimp only at t7 ⊢
    obtain ⟨TA, ct, et⟩ := t7.slice
    rw [hlen] at et
    subst et
    have T7 := Lib.hid t7
    have O7 := Lib.hid (O4.out.below b7)
    have B7 := Lib.hid (B4.out.trans (b7.mono B4.out.size))
    clear t7 b7 O4 B4 CF
    go_wp2_with fail
    refine (ST.out _ _ _ T7.out).mono ?_
    rintro e w8 ⟨vm, rfl, m8, b8⟩
    obtain ⟨M, cm, em⟩ := m8.slice
    rw [SQ.out.len] at em
    subst em
    have M8 := Lib.hid m8
    have T8 := Lib.hid (T7.out.below b8)
    have O8 := Lib.hid (O7.out.below b8)
    have B8 := Lib.hid (B7.out.trans (b8.mono B7.out.size))
    clear m8 b8 T7 O7 B7 ST
    go_wp2_with fail
    refine (SO.out _ _ _ T8.out).mono ?_
    rintro e w9 ⟨vo, rfl, o9, b9⟩
    have M9 := Lib.hid (M8.out.below b9)
    have O9 := Lib.hid (O8.out.below b9)
    have B9 := Lib.hid (B8.out.trans (b9.mono B8.out.size))
    have Z9 := Lib.hid o9
    clear o9 b9 M8 T8 O8 B8 SO
    go_wp2_with fail
    refine (SI.out _ _ _ Z9.out).mono ?_
    rintro e w10 ⟨rfl, b10⟩
    have M10 := Lib.hid (M9.out.below b10)
    have O10 := Lib.hid (O9.out.below b10)
    have B10 := Lib.hid (B9.out.trans (b10.mono B9.out.size))
    clear b10 M9 O9 B9 Z9 SI
    have KF := Lib.hid (show ∀ W, Below w10.heap.size w10 W → OwnR W w7.heap.size (.slice M N cm) t ∧ OwnCross W w.heap.size (.slice L ls.length cl) ls ∧ Below w.heap.size w W from
      fun W hb => ⟨M10.out.below hb, O10.out.below hb, B10.out.trans (hb.mono B10.out.size)⟩)
    have hs10 := B10.out.size
    have BT1 := Lib.hid (fun W => (show Calls Try.prog 18 #[.bool true] W fun e w' => e = .returned (.int .i64 1) ∧ w' = W from (btoi_any true W).mono fun e w' h => ⟨h.1, h.2.symm⟩))
    have BT0 := Lib.hid (fun W => (show Calls Try.prog 18 #[.bool false] W fun e w' => e = .returned (.int .i64 0) ∧ w' = W from (btoi_any false W).mono fun e w' h => ⟨h.1, h.2.symm⟩))
    clear M10 O10 B10 hp hi e1 e2 e3 eN hlen hmp hkp hx0 hx1 hy0 hy1 hpl hd7 h41 hub
    go_wp2_with fail
    go_loopw [13] (fun av wr => ∃ q : Nat, q ≤ N ∧ av = .int .i64 (q : Int) ∧ Hid (Below w10.heap.size w10 wr)) (fun av _ => N - (intOf av).toNat)
    case atStart => exact ⟨0, by omega, rfl, Lib.hid (Below.refl _ _)⟩
    case round =>
      obtain ⟨q, hq, rfl, BW⟩ := hrel
      by_cases hlt : q < N
      · have hq0 : (0 : Int) ≤ (q : Int) := by omega
        have hq1 : (q : Int) < (N : Int) := by omega
        go_wp2_with fail
        go_loopw [14] (fun bv wr => ∃ r : Nat, r ≤ q ∧ bv = .int .i64 (r : Int) ∧ Hid (Below w10.heap.size w10 wr)) (fun bv _ => q - (intOf bv).toNat)
        case atStart => exact ⟨0, by omega, rfl, BW⟩
        case round =>
          clear BW
          obtain ⟨r, hr, rfl, BW⟩ := hrel
          by_cases hlr : r < q
          rotate_left
          · obtain rfl : r = q := by omega
            go_wp2
            exact ⟨⟨r + 1, by omega, by go_num, BW⟩, by simp [intOf]; omega⟩
          have hr0 : (0 : Int) ≤ (r : Int) := by omega
          have hr1 : (r : Int) < (N : Int) := by omega
          have hr2 : (r : Int) < (q : Int) := by omega
          obtain ⟨g, c1, ga, ca, ev, x0, x1⟩ := (KF.out _ BW.out).1.entryR SQ.out hlt (show r < N by omega)
          simp only [Value.slice.injEq, true_and] at ev
          obtain ⟨rfl, rfl⟩ := ev
          rw [TW.out q r hlt hlr] at x1
          have WY := Lib.hid (fun z => (below_drewN BW.out z : Below w10.heap.size w10 (wr.drewN z)))
          by_cases h1 : q = k
          · have h1b : ((q : Int) == (k : Int)) = true := by rw [h1]; simp
            by_cases h2 : r = i
            · have h2b : ((r : Int) == (i : Int)) = true := by rw [h2]; simp
              rw [if_pos ⟨h1, h2⟩] at x1
              clear h1 h2
              go_wp2_with fail
              go_quiet (first | (go_at_call 18; refine Calls.quiet_of_same (BT1.out _)))
              go_wp2
              exact ⟨⟨r + 1, by omega, by go_num, Lib.hid (WY.out _)⟩, by simp [intOf]; omega⟩
            · have h2b : ((r : Int) == (i : Int)) = false := by simp; omega
              rw [if_neg (fun h => h2 h.2)] at x1
              clear h1 h2
              go_wp2_with fail
              go_quiet (first | (go_at_call 18; refine Calls.quiet_of_same (BT0.out _)))
              go_wp2
              exact ⟨⟨r + 1, by omega, by go_num, Lib.hid (WY.out _)⟩, by simp [intOf]; omega⟩
          · have h1b : ((q : Int) == (k : Int)) = false := by simp; omega
            rw [if_neg (fun h => h1 h.1)] at x1
            clear h1
            go_wp2_with fail
            go_quiet (first | (go_at_call 18; refine Calls.quiet_of_same (BT0.out _)))
            go_wp2
            exact ⟨⟨r + 1, by omega, by go_num, Lib.hid (WY.out _)⟩, by simp [intOf]; omega⟩
      · obtain rfl : q = N := by omega
        have hN2 := hN
        clear SQ TW BT1 BT0 hlt hq
        have F1 := KF.out _ BW.out
        have O11 := Lib.hid F1.2.1
        have B11 := Lib.hid F1.2.2
        clear F1 KF BW
        go_wp2_with fail
        refine (C9.out _ O11.out).mono ?_
        rintro e w12 ⟨vh, rfl, h12, b12⟩
        dsimp only at h12 ⊢
        obtain ⟨H, ch, eh⟩ := h12.slice
        rw [List.length_nil] at eh
        subst eh
        have B12 := Lib.hid (B11.out.trans (b12.mono B11.out.size))
        clear h12 b12 O11 B11 C9
        go_wp2_with fail
        refine (CX.out _ B12.out).mono ?_
        rintro e w13 ⟨N2, vc, cs, rfl, hN3, o13, hl9, hok2, b13⟩
        have HF := home_facts hok2 hN3.2 hl9
        obtain ⟨C, cc, rfl⟩ := o13.slice
        have O13 := Lib.hid o13
        have B13 := Lib.hid (B12.out.trans (b13.mono B12.out.size))
        clear o13 b13 B12 CX
        have CH := Lib.hid (fun W h => implHome (N2 : Int) (.slice C cs.length cc) cs w12.heap.size W h (by omega))
        have CO := Lib.hid (fun W h => specOrdA (N2 : Int) (.slice C cs.length cc) cs w12.heap.size W h (by omega))
        have io := nowAt_ord hok2 cs.length
        have eo : ordAfter (N2 : Int) cs = nowAt (N2 : Int) cs cs.length := by unfold ordAfter; rw [if_pos hok2]
        have SI := Lib.hid (fun v b W h => (show Calls Try.prog 16 #[v] W fun e w' => e = .returned (.int .i64 ((bringHome (N2 : Int) cs).1.length : Int)) ∧ Below W.heap.size W w' from by
          have q := specInv v (ordAfter (N2 : Int) cs) b W h (by have := ordAfter_len (N2 : Int) cs; omega)
          rwa [if_pos (by rw [eo]; exact order_iff.2 io), ← HF.2.2.2.1] at q))
        have HT := Lib.hid HF.2.2.2.2
        clear HF io eo hok2
        generalize bringHome (N2 : Int) cs = r at CH SI HT
        obtain ⟨gs, gb⟩ := r
        have hgb := HT.out
        dsimp only at hgb
        subst hgb
        unfold CrossB at CH
        dsimp only at CH SI
        generalize ordAfter (N2 : Int) cs = zo at CO SI
        go_wp2_with fail
        refine (CH.out _ O13.out).mono ?_
        rintro e w14 ⟨vg, rfl, g14, b14⟩
        dsimp only at g14 ⊢
        obtain ⟨G, cg, rfl⟩ := g14.slice
        have O14 := Lib.hid (O13.out.below b14)
        have B14 := Lib.hid (B13.out.trans (b14.mono B13.out.size))
        clear g14 b14 O13 B13 CH
        go_wp2_with fail
        refine (CO.out _ O14.out).mono ?_
        rintro e w15 ⟨vo2, rfl, o15, b15⟩
        have Z15 := Lib.hid o15
        have B15 := Lib.hid (B14.out.trans (b15.mono B14.out.size))
        clear o15 b15 O14 B14 CO
        go_wp2_with fail
        refine (SI.out _ _ _ Z15.out).mono ?_
        rintro e w16 ⟨rfl, b16⟩
        have B16 := Lib.hid (B15.out.trans (b16.mono B15.out.size))
        clear b16 Z15 B15 SI
        go_wp2
        go_ret
        exact ⟨rfl, B16.out⟩
end Go.Proofs.Ythijfipjfdmoeaa
