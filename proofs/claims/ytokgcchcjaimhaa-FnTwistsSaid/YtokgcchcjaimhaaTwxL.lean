/- The law FnTwists, walked over the contracts of the program's functions. No condition. -/
import Derived.Test.YtokgcchcjaimhaaUndS
import Derived.Test.YtokgcchcjaimhaaPlcS
import Derived.Test.YtokgcchcjaimhaaLstC
import Derived.Test.YtokgcchcjaimhaaTwxN
import Derived.Test.YtokgcchcjaimhaaOrAS
import Derived.Test.YtokgcchcjaimhaaOrdS
import Derived.Test.YtokgcchcjaimhaaRedS
import Derived.Test.YtokgcchcjaimhaaSameN
import Derived.Test.YtokgcchcjaimhaaTwsI
import Derived.BigQuiet
import Derived.Deep.RegionHeld3
namespace Go.Proofs.Ytokgcchcjaimhaa
set_option linter.unusedVariables false
set_option linter.unusedSimpArgs false
open Go.RowKit

theorem twistOf_at {n : Nat} {ls : List RCross} {i k : Nat} (hl : (twistTab (n : Int) ls).length = n) (hi : i < n) (hk : k < n) : twistOf (n : Int) ls (i : Int) (k : Int) = ent (twistTab (n : Int) ls) i k := by
  unfold twistOf
  rw [hl, if_pos ⟨inB_yes (by omega), inB_yes (by omega)⟩, Int.toNat_natCast, Int.toNat_natCast]

/- HYPOTHESES -/
set_option maxRecDepth 100000 in
set_option maxHeartbeats 3200000 in
theorem FnTwists_walk (a : Option Addr) (n cap : Nat) (z : List Int) (w : World) (hr : IsRow .u8 w a n cap z) :
    Calls Try.prog 3 #[.slice a n cap] w fun e w' => e = .returned (.bool true) ∧ Below w.heap.size w w' := by
  have hm := row_len hr
  by_cases hn : 1048576 < n
  · clear hr
    go_enter Try.func3, Try.ntmps3
    go_wp2_with fail
    refine (big_yes a n cap w hn hm).mono ?_
    rintro e w' ⟨rfl, rfl⟩
    go_wp2
    go_ret
    exact ⟨rfl, Below.refl _ _⟩
  have CD := Lib.hid (drawCrosses_any a n cap z w hr (by omega))
  clear hr
  go_enter Try.func3, Try.ntmps3
  go_wp2_with fail
  refine (big_no a n cap w (by omega)).mono ?_
  rintro e w' ⟨rfl, rfl⟩
  go_wp2_with fail
  refine CD.out.mono ?_
  rintro e w1 ⟨N, vl, ls, rfl, hN, o1, hl9, hok, b1⟩
  obtain ⟨L, cl, rfl⟩ := o1.slice
  have O1 := Lib.hid o1
  have B1 := Lib.hid b1
  clear o1 b1 CD hm hn
  have F := twistFacts hok
  have hul := undo_len ls
  have hrl := reduced_len (N : Int) ls
  have C1 := Lib.hid (fun W h => implTab (N : Int) (.slice L ls.length cl) ls w.heap.size W h (by omega))
  have C2 := Lib.hid (fun W h => specOrdA (N : Int) (.slice L ls.length cl) ls w.heap.size W h (by omega))
  have C3 := Lib.hid (fun (i k : Nat) (hi : i < N) (hk : k < N) W h => twistOf_at F.len hi hk ▸ implTwO (N : Int) (.slice L ls.length cl) ls w.heap.size W h (by omega) (i : Int) (k : Int))
  have C4 := Lib.hid (fun v (x : Int) b W h => specPlace v (ordAfter (N : Int) ls) x b W h (by have := ordAfter_len (N : Int) ls; omega))
  have C5 := Lib.hid (fun W h => specUndo (.slice L ls.length cl) ls w.heap.size W h (by omega))
  have C6 := Lib.hid (fun W h => specRed (N : Int) (.slice L ls.length cl) ls w.heap.size W h (by omega))
  have C7 := Lib.hid (fun W h => implTot (N : Int) (.slice L ls.length cl) ls w.heap.size W h (by omega))
  have C8 := Lib.hid (fun W h => implLst (N : Int) (.slice L ls.length cl) ls w.heap.size W h (by omega))
  have C9 := Lib.hid (fun W h => implWnd (N : Int) (.slice L ls.length cl) ls w.heap.size W h (by omega))
  have hun := F.undone (by omega)
  have C10 := Lib.hid (fun v b W h => hun ▸ implUnt (N : Int) v (ls ++ undo ls) b W h (by rw [List.length_append]; omega))
  have C11 := Lib.hid (fun W h => implUnt (N : Int) (.slice L ls.length cl) ls w.heap.size W h (by omega))
  have C12 := Lib.hid (fun v b W h => specInv v (ordAfter (N : Int) ls) b W h (by have := ordAfter_len (N : Int) ls; omega))
  have C13 := Lib.hid (fun v b W h => F.totRed ▸ implTot (N : Int) v (reduced (N : Int) ls) b W h (by omega))
  have UW := Lib.hid (show untw (N : Int) ls = (decide ((if orderOk (ordAfter (N : Int) ls) = true then (invs (ordAfter (N : Int) ls) : Int) else -1) = 0) && decide ((woundPs (N : Int) ls).length = 0)) by unfold untw; rw [hok]; rfl)
  generalize hx : (if orderOk (ordAfter (N : Int) ls) = true then (invs (ordAfter (N : Int) ls) : Int) else -1) = inv at C12 UW
  have EV := Lib.hid (fun i k (hi : i < N) (hk : k < i) => F.even i k hi hk)
  generalize ordAfter (N : Int) ls = zs at C2 C4 C12 EV
  have FL := Lib.hid F.len
  have SQ := Lib.hid F.sq
  have DG := Lib.hid F.diag
  have SY := Lib.hid F.sym
  have SS := Lib.hid F.sum
  have LE := Lib.hid F.least
  have FW := Lib.hid F.few
  have WD := Lib.hid F.wound
  have SM := Lib.hid F.small
  have HUL := Lib.hid hul
  clear F hok hun hx hul hrl
  generalize untw (N : Int) ls = un at C11 UW
  generalize leastUn (N : Int) ls = lu at C8 LE FW
  generalize totalTw (N : Int) ls = tt at C7 C13 SS
  generalize woundPs (N : Int) ls = ps at C9 UW WD
  generalize reduced (N : Int) ls = rs at C6 C13 FW
  generalize undo ls = us at C5 C10 HUL
  generalize twistTab (N : Int) ls = t at C1 C3 EV FL SQ DG SY SS LE WD SM
  go_wp2_with fail
  refine (C1.out _ O1.out).mono ?_
  rintro e w2 ⟨vt, rfl, t2, b2⟩
  obtain ⟨T, ct, e2⟩ := t2.slice
  rw [FL.out] at e2
  subst e2
  have T2 := Lib.hid t2
  have O2 := Lib.hid (O1.out.below b2)
  have B2 := Lib.hid (B1.out.trans (b2.mono B1.out.size))
  clear b2 t2 O1 B1 C1
  go_wp2_with fail
  refine (C2.out _ O2.out).mono ?_
  rintro e w3 ⟨vo, rfl, z3, b3⟩
  obtain ⟨Z, cz, rfl⟩ := z3.slice
  have KF := Lib.hid (show ∀ W, Below w3.heap.size w3 W → OwnCross W w.heap.size (.slice L ls.length cl) ls ∧ OwnR W w1.heap.size (.slice T N ct) t ∧ OwnI W w2.heap.size (.slice Z zs.length cz) zs ∧ Below w.heap.size w W from
    fun W hb => ⟨(O2.out.below b3).below hb, (T2.out.below b3).below hb, z3.below hb, (B2.out.trans (b3.mono B2.out.size)).trans (hb.mono (B2.out.trans (b3.mono B2.out.size)).size)⟩)
  have hs3 : w.heap.size ≤ w3.heap.size := (KF.out _ (Below.refl _ _)).2.2.2.size
  clear b3 z3 O2 T2 B2 C2
  have DS := Lib.hid (dsum_small (f := ent t) (n := N) (by omega) (fun i k hi hk => SM.out i k hi (by omega)))
  have DA := Lib.hid (dsum_small (f := fun i k => absI (ent t i k)) (n := N) (by omega) (fun i k hi hk => abs_small (SM.out i k hi (by omega))))
  have DW := Lib.hid (dsum_small (f := wnd t) (n := N) (by omega) (fun i k hi hk => wnd_small t i k))
  go_wp2_with fail
  go_loopw [7, 8, 9, 10] (fun sv lv wv iv wr => ∃ i : Nat, i ≤ N ∧ iv = .int .i64 (i : Int) ∧ sv = .int .i64 (dsum (ent t) i) ∧ lv = .int .i64 (dsum (fun i k => absI (ent t i k)) i) ∧ wv = .int .i64 (dsum (wnd t) i) ∧ Hid (Below w3.heap.size w3 wr)) (fun _ _ _ iv _ => N - (intOf iv).toNat)
  case atStart => exact ⟨0, by omega, rfl, rfl, rfl, rfl, Lib.hid (Below.refl _ _)⟩
  case round =>
    obtain ⟨i, hi, rfl, rfl, rfl, rfl, BW⟩ := hrel
    by_cases hlt : i < N
    · have hi0 : (0 : Int) ≤ (i : Int) := by omega
      have hi1 : (i : Int) < (N : Int) := by omega
      have ds := DS.out i hi
      have da := DA.out i hi
      have dw := DW.out i hi
      have NS := Lib.hid (show dsum (ent t) (i + 1) = dsum (ent t) i + rsum (ent t) i i from rfl)
      have NA := Lib.hid (show dsum (fun i k => absI (ent t i k)) (i + 1) = dsum (fun i k => absI (ent t i k)) i + rsum (fun i k => absI (ent t i k)) i i from rfl)
      have NW := Lib.hid (show dsum (wnd t) (i + 1) = dsum (wnd t) i + rsum (wnd t) i i from rfl)
      generalize dsum (ent t) i = S0 at ds NS ⊢
      generalize dsum (fun i k => absI (ent t i k)) i = A0 at da NA ⊢
      generalize dsum (wnd t) i = W0 at dw NW ⊢
      obtain ⟨g, c1, ga, ca, ev, x0, xd⟩ := (KF.out _ BW.out).2.1.entryR SQ.out hlt hlt
      rw [DG.out i hlt] at xd
      simp only [Value.slice.injEq, true_and] at ev
      obtain ⟨rfl, rfl⟩ := ev
      go_wp2_with fail
      clear x0 xd
      go_loopw [7, 8, 9, 11] (fun sv lv wv kv wr => ∃ k : Nat, k ≤ i ∧ kv = .int .i64 (k : Int) ∧ sv = .int .i64 (S0 + rsum (ent t) i k) ∧ lv = .int .i64 (A0 + rsum (fun i k => absI (ent t i k)) i k) ∧ wv = .int .i64 (W0 + rsum (wnd t) i k) ∧ Hid (Below w3.heap.size w3 wr)) (fun _ _ _ kv _ => i - (intOf kv).toNat)
      case atStart => exact ⟨0, by omega, rfl, by rw [rsum, Int.add_zero], by rw [rsum, Int.add_zero], by rw [rsum, Int.add_zero], BW⟩
      case round =>
        clear BW
        obtain ⟨k, hk, rfl, rfl, rfl, rfl, BW⟩ := hrel
        by_cases hlk : k < i
        rotate_left
        · obtain rfl : k = i := by omega
          go_wp2
          exact ⟨⟨k + 1, by omega, by go_num, by rw [NS.out], by rw [NA.out], by rw [NW.out], BW⟩, by simp [intOf]; omega⟩
        have hk0 : (0 : Int) ≤ (k : Int) := by omega
        have hk1 : (k : Int) < (N : Int) := by omega
        have hk2 : (k : Int) < (i : Int) := by omega
        have hkn : k < N := by omega
        have ev := EV.out i k hlt hlk
        have sm := SM.out i k hlt hkn
        have rs := rsum_small (f := ent t) (i := i) k (fun j hj => SM.out i j hlt (by omega))
        have ra := rsum_small (f := fun i k => absI (ent t i k)) (i := i) k (fun j hj => abs_small (SM.out i j hlt (by omega)))
        have rw_ := rsum_small (f := wnd t) (i := i) k (fun j hj => wnd_small t i j)
        have RS := Lib.hid (show rsum (ent t) i (k + 1) = rsum (ent t) i k + ent t i k from rfl)
        have RA := Lib.hid (show rsum (fun i k => absI (ent t i k)) i (k + 1) = rsum (fun i k => absI (ent t i k)) i k + absI (ent t i k) from rfl)
        obtain ⟨yb, hyb⟩ : ∃ yb, (ent t i k != 0) = yb := ⟨_, rfl⟩
        have RW := Lib.hid (show rsum (wnd t) i (k + 1) = rsum (wnd t) i k + (if yb = true then 1 else 0) by
          rw [rsum, ← hyb]
          unfold wnd
          by_cases c : ent t i k = 0
          · simp [c]
          · simp [c])
        have CT := Lib.hid (C3.out i k hlt hkn)
        have CK := Lib.hid (fun v b W h => C4.out v (k : Int) b W h)
        have CI := Lib.hid (fun v b W h => C4.out v (i : Int) b W h)
        obtain ⟨_, _, ga, ca, ev1, x0, x1⟩ := (KF.out _ BW.out).2.1.entryR SQ.out hlt hkn
        simp only [Value.slice.injEq, Option.some.injEq, Addr.mk.injEq, true_and] at ev1
        obtain ⟨⟨rfl, -⟩, rfl⟩ := ev1
        obtain ⟨_, _, gb, cb, ev1, y0, y1⟩ := (KF.out _ BW.out).2.1.entryR SQ.out hkn hlt
        simp only [Value.slice.injEq, Option.some.injEq, Addr.mk.injEq, true_and] at ev1
        obtain ⟨⟨rfl, -⟩, rfl⟩ := ev1
        rw [SY.out k i hkn hlt] at y1
        generalize ent t i k = x at ev sm RS RA hyb CT x1 y1
        generalize placeOf zs (k : Int) = pk at ev CK
        generalize placeOf zs (i : Int) = pi at ev CI
        generalize rsum (ent t) i k = s1 at rs RS ⊢
        generalize rsum (fun i k => absI (ent t i k)) i k = a1 at ra RA ⊢
        generalize rsum (wnd t) i k = u1 at rw_ RW ⊢
        obtain ⟨tb, htb⟩ : ∃ tb, decide (pk < pi) = tb := ⟨_, rfl⟩
        have hmod : (Int.tmod x 2 == 0) = tb := by
          rw [← htb]
          by_cases c : pk < pi
          · have hd : (2 : Int) ∣ x := by have := ev.2 c; omega
            rw [decide_eq_true c, Int.tmod_eq_zero_of_dvd hd]
            rfl
          · have hd : ¬ Int.tmod x 2 = 0 := fun e => by have := Int.dvd_of_tmod_eq_zero e; exact c (ev.1 (by omega))
            rw [decide_eq_false c]
            simpa using hd
        have e1 : IntKind.i64.wrap (-x) = -x := IntWalk.i64_in _ (by omega)
        have EM := Lib.hid (show (if x < -x then -x else x) = absI x by unfold absI; split <;> split <;> omega)
        have X0 := Lib.hid (show wr.cell? ⟨g, i, none⟩ = some (.slice (some ⟨ga, 0, none⟩) N ca) ∧ wr.cell? ⟨ga, k, none⟩ = some (.int .i64 x) ∧ wr.cell? ⟨g, k, none⟩ = some (.slice (some ⟨gb, 0, none⟩) N cb) ∧ wr.cell? ⟨gb, i, none⟩ = some (.int .i64 x) from ⟨x0, x1, y0, y1⟩)
        have KG := Lib.hid (show ∀ W, Below wr.heap.size wr W → (W.cell? ⟨g, i, none⟩ = some (.slice (some ⟨ga, 0, none⟩) N ca) ∧ W.cell? ⟨ga, k, none⟩ = some (.int .i64 x) ∧ W.cell? ⟨g, k, none⟩ = some (.slice (some ⟨gb, 0, none⟩) N cb) ∧ W.cell? ⟨gb, i, none⟩ = some (.int .i64 x)) ∧ OwnCross W w.heap.size (.slice L ls.length cl) ls ∧ OwnI W w2.heap.size (.slice Z zs.length cz) zs ∧ Below w3.heap.size w3 W from
          fun W hb => ⟨⟨cell_below x0 hb, cell_below x1 hb, cell_below y0 hb, cell_below y1 hb⟩, (KF.out W (BW.out.trans (hb.mono BW.out.size))).1, (KF.out W (BW.out.trans (hb.mono BW.out.size))).2.2.1, BW.out.trans (hb.mono BW.out.size)⟩)
        clear ev x0 x1 y0 y1 BW
        go_wp2_with fail
        go_region_held3 (fun W => W.cell? ⟨g, i, none⟩ = some (.slice (some ⟨ga, 0, none⟩) N ca) ∧ W.cell? ⟨ga, k, none⟩ = some (.int .i64 x) ∧ W.cell? ⟨g, k, none⟩ = some (.slice (some ⟨gb, 0, none⟩) N cb) ∧ W.cell? ⟨gb, i, none⟩ = some (.int .i64 x))
          (first | exact X0.out | exact F8.out.1 | exact F9.out.1 | exact F10.out.1)
          (first
            | (have _t := tokB; go_at_call 15; (refine (CI.out _ _ _ F9.out.2.2.1).mono ?_); rintro e w10 ⟨rfl, b10⟩; have F10 := Lib.hid (KG.out _ (B9.out.trans (b10.mono B9.out.size))); clear b10)
            | (have _t := tokA; go_at_call 15; (refine (CK.out _ _ _ F8.out.2.2.1).mono ?_); rintro e w9 ⟨rfl, b9⟩; have B9 := Lib.hid (B8.out.trans (b9.mono B8.out.size)); have F9 := Lib.hid (KG.out _ B9.out); have tokB := Lib.hid trivial; clear b9)
            | (go_at_call 14; (refine (CT.out _ (KG.out _ (Below.refl _ _).drew).2.1).mono ?_); rintro e w8 ⟨rfl, b8⟩; replace b8 := undrew b8; have F8 := Lib.hid (KG.out _ b8); have B8 := Lib.hid b8; have tokA := Lib.hid trivial; clear b8))
        have B10 := Lib.hid F10.out.2.2.2
        obtain ⟨x0, x1, y0, y1⟩ := F10.out.1
        have hsz := F10.out.2.2.2.size
        clear y0 y1 F8 F9 F10 B8 B9 tokA tokB KG CT CK CI htb hmod X0
        have WY := Lib.hid (fun q => (below_drewN B10.out q : Below w3.heap.size w3 (w10.drewN q)))
        go_wp2_with fail
        go_quiet (fail)
        go_wp2_with (go_at_call 16; refine (btoi_any _ _).mono ?_; rintro e w' ⟨rfl, rfl⟩)
        exact ⟨⟨k + 1, by omega, by go_num, by rw [RS.out, Int.add_assoc], by rw [RA.out, EM.out, Int.add_assoc], by rw [RW.out, Int.add_assoc], Lib.hid (WY.out _)⟩, by simp [intOf]; omega⟩
    · obtain rfl : i = N := by omega
      rw [SS.out, ← LE.out, ← WD.out]
      clear C3 C4 EV SQ DG SY SS LE WD SM DS DA DW hi hlt
      have E7 := Lib.hid (emptyCross wr wr.heap.size wr.heap.size #[] rfl (Nat.le_refl _) rfl)
      have L7 := Lib.hid (KF.out _ BW.out).1
      go_wp2_with (at_builtin; refine wpList_rowsCross rfl (.tmp 154) (.tmp 155) rfl wr.heap.size w.heap.size (.slice (some ⟨wr.heap.size, 0, none⟩) 0 0) (.slice L ls.length cl) [] ls rfl rfl E7.out (L7.out.alloc _) ?_ ?_ ?_; (simp; omega); (simp); intro v8 w8 o8 g8 hat8; replace o8 : OwnCross w8 wr.heap.size v8 ls := o8; have B8 := Lib.hid (mineCross ((Below.refl wr.heap.size wr).alloc (Nat.le_refl _) _) (by simp) E7.out g8); have A8 := Lib.hid o8; clear o8 g8 hat8)
      refine (C5.out _ (L7.out.below B8.out)).mono ?_
      rintro e w9 ⟨vu, rfl, u9, b9⟩
      obtain ⟨U, cu, rfl⟩ := u9.slice
      have U9 := Lib.hid u9
      have A9 := Lib.hid (A8.out.below b9)
      have B9 := Lib.hid (B8.out.trans (b9.mono B8.out.size))
      have hs9 := B9.out.size
      have h9u : ls.length + us.length ≤ 4000000 := by have := HUL.out; omega
      clear b9 u9 E7 L7 A8 B8 C5
      go_wp2_with (at_builtin; refine wpList_rowsCross rfl (.tmp 156) (.tmp 158) rfl wr.heap.size w8.heap.size v8 (.slice U us.length cu) ls us rfl rfl A9.out U9.out ?_ ?_ ?_; (exact h9u); (exact hs9); intro v10 w10 o10 g10 hat10; have B10 := Lib.hid (mineCross B9.out hs9 A9.out g10); have A10 := Lib.hid o10; clear o10 g10 hat10)
      have BB := Lib.hid (BW.out.trans (B10.out.mono BW.out.size))
      obtain ⟨G, cg, e9⟩ := A10.out.slice
      rw [List.length_append] at e9
      subst e9
      clear U9 A9 B9 hs9 h9u B10 BW
      refine (C6.out _ (KF.out _ BB.out).1).mono ?_
      rintro e w11 ⟨vr, rfl, r11, b11⟩
      obtain ⟨R, cr, rfl⟩ := r11.slice
      have R11 := Lib.hid r11
      have A11 := Lib.hid (A10.out.below b11)
      have B11 := Lib.hid (BB.out.trans (b11.mono BB.out.size))
      clear r11 b11 BB A10 C6
      go_wp2_with fail
      refine (C7.out _ (KF.out _ B11.out).1).mono ?_
      rintro e w12 ⟨rfl, b12⟩
      have R12 := Lib.hid (R11.out.below b12)
      have A12 := Lib.hid (A11.out.below b12)
      have B12 := Lib.hid (B11.out.trans (b12.mono B11.out.size))
      clear b12 R11 A11 B11 C7
      go_wp2_with fail
      refine (C8.out _ (KF.out _ B12.out).1).mono ?_
      rintro e w13 ⟨rfl, b13⟩
      have R13 := Lib.hid (R12.out.below b13)
      have A13 := Lib.hid (A12.out.below b13)
      have B13 := Lib.hid (B12.out.trans (b13.mono B12.out.size))
      clear b13 R12 A12 B12 C8
      have fw := FW.out
      go_wp2_with fail
      refine (C9.out _ (KF.out _ B13.out).1).mono ?_
      rintro e w14 ⟨vp, rfl, p14, b14⟩
      obtain ⟨P, cp, rfl⟩ := p14.slice
      have R14 := Lib.hid (R13.out.below b14)
      have A14 := Lib.hid (A13.out.below b14)
      have B14 := Lib.hid (B13.out.trans (b14.mono B13.out.size))
      clear b14 p14 R13 A13 B13 C9
      go_wp2_with fail
      refine (C10.out _ _ _ A14.out).mono ?_
      rintro e w15 ⟨rfl, b15⟩
      have R15 := Lib.hid (R14.out.below b15)
      have B15 := Lib.hid (B14.out.trans (b15.mono B14.out.size))
      clear b15 R14 A14 B14 C10
      go_wp2_with fail
      refine (C11.out _ (KF.out _ B15.out).1).mono ?_
      rintro e w16 ⟨rfl, b16⟩
      have R16 := Lib.hid (R15.out.below b16)
      have B16 := Lib.hid (B15.out.trans (b16.mono B15.out.size))
      clear b16 R15 B15 C11
      obtain ⟨v, hv⟩ : ∃ v, decide (inv = 0) = v := ⟨_, rfl⟩
      have hvb : (inv == 0) = v := by
        rw [← hv]
        by_cases c : inv = 0 <;> simp [c]
      have HV := Lib.hid hv
      clear hv
      by_cases hw : ps.length = 0
      · have hun : un = v := by rw [UW.out, HV.out, hw]; simp
        have hwb : ((ps.length : Int) == 0) = true := by rw [hw]; rfl
        subst hun
        clear UW HV
        go_wp2_with fail
        refine (C12.out _ _ _ (KF.out _ B16.out).2.2.1).mono ?_
        rintro e w17 ⟨rfl, b17⟩
        have R17 := Lib.hid (R16.out.below b17)
        have B17 := Lib.hid (B16.out.trans (b17.mono B16.out.size))
        clear b17 R16 B16 C12
        go_wp2_with fail
        refine (C13.out _ _ _ R17.out).mono ?_
        rintro e w18 ⟨rfl, b18⟩
        have B18 := Lib.hid ((KF.out _ B17.out).2.2.2.trans (b18.mono (KF.out _ B17.out).2.2.2.size))
        clear b18
        go_wp2
        go_ret
        exact ⟨rfl, B18.out⟩
      · have hun : un = false := by rw [UW.out, decide_eq_false hw, Bool.and_false]
        have hwb : ((ps.length : Int) == 0) = false := by simp; exact fun e => hw (by rw [e]; rfl)
        subst hun
        clear UW HV
        go_wp2_with fail
        refine (C13.out _ _ _ R16.out).mono ?_
        rintro e w18 ⟨rfl, b18⟩
        have B18 := Lib.hid ((KF.out _ B16.out).2.2.2.trans (b18.mono (KF.out _ B16.out).2.2.2.size))
        clear b18
        go_wp2
        go_ret
        exact ⟨rfl, B18.out⟩
end Go.Proofs.Ytokgcchcjaimhaa
