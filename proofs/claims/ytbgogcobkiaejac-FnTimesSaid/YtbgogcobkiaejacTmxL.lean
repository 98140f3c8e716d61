/- The law FnTimes, walked over the contracts of the program's functions. No condition. -/
import Derived.Test.YtbgogcobkiaejacPk6
import Derived.Test.YtbgogcobkiaejacSameN
import Derived.Test.YtbgogcobkiaejacPk3
import Derived.Test.YtbgogcobkiaejacTimI
import Derived.BigQuiet
namespace Go.Proofs.Ytbgogcobkiaejac
set_option linter.unusedVariables false
set_option linter.unusedSimpArgs false
open Go.RowKit

/-- How many of the first k cues have no slack; the end of the last of them. -/
def tiTo (ls : List RCue) : Nat → Int
  | 0 => 0
  | k + 1 => tiTo ls k + (if (startsOf ls).getD k 0 = (latestStarts ls).getD k 0 then 1 else 0)
def endTo (ls : List RCue) : Nat → Int
  | 0 => 0
  | k + 1 => if endTo ls k < (simplePlan ls).getD k 0 + tk ls k then (simplePlan ls).getD k 0 + tk ls k else endTo ls k
theorem ti_small (ls : List RCue) : ∀ k, 0 ≤ tiTo ls k ∧ tiTo ls k ≤ (k : Int) := by
  intro k
  induction k with
  | zero => rw [tiTo]; omega
  | succ k ih => rw [tiTo]; split <;> omega
theorem ti_some {ls : List RCue} {t : Nat} (h : (startsOf ls).getD t 0 = (latestStarts ls).getD t 0) : ∀ k, t < k → 1 ≤ tiTo ls k := by
  intro k
  induction k with
  | zero => intro h; omega
  | succ k ih =>
    intro hk
    have := ti_small ls k
    rw [tiTo]
    by_cases c : t = k
    · subst c; rw [if_pos h]; omega
    · have := ih (by omega); split <;> omega
theorem end_ge (ls : List RCue) : ∀ k t, t < k → (simplePlan ls).getD t 0 + tk ls t ≤ endTo ls k := by
  intro k
  induction k with
  | zero => intro t h; omega
  | succ k ih =>
    intro t ht
    rw [endTo]
    by_cases c : t = k
    · subst c; split <;> omega
    · have := ih t (by omega); split <;> omega
theorem end_small {ls : List RCue} {m : Int} (hm : 0 ≤ m) (h : ∀ k, k < ls.length → (simplePlan ls).getD k 0 + tk ls k ≤ m) : ∀ k, k ≤ ls.length → 0 ≤ endTo ls k ∧ endTo ls k ≤ m := by
  intro k
  induction k with
  | zero => intro _; rw [endTo]; omega
  | succ k ih => intro hk; have := ih (by omega); have := h k (by omega); rw [endTo]; split <;> omega
/- HYPOTHESES -/
set_option maxRecDepth 100000 in
set_option maxHeartbeats 3200000 in
theorem FnTimes_walk (a : Option Addr) (n cap : Nat) (z : List Int) (w : World) (hr : IsRow .u8 w a n cap z) :
    Calls Try.prog 3 #[.slice a n cap] w fun e w' => e = .returned (.bool true) ∧ Below w.heap.size w w' := by
  have hm := row_len hr
  by_cases hn : 1048576 < n
  · clear hr
    go_enter Try.func3, Try.ntmps3
    go_wp2_with fail
    refine (big_yes a n cap w hn hm).mono ?_
    rintro e w' ⟨rfl, rfl⟩
    go_wp2
    go_ret
    exact ⟨rfl, Below.refl _ _⟩
  have CD := Lib.hid (drawCues_any a n cap z w hr (by omega))
  clear hr
  go_enter Try.func3, Try.ntmps3
  go_wp2_with fail
  refine (big_no a n cap w (by omega)).mono ?_
  rintro e w' ⟨rfl, rfl⟩
  go_wp2_with fail
  refine CD.out.mono ?_
  rintro e w1 ⟨vl, ls, rfl, o1, hl, hg, b1⟩
  obtain ⟨L, cl, rfl⟩ := o1.slice
  have O1 := Lib.hid o1
  have B1 := Lib.hid b1
  have hok := good_ok hg hl
  have hbk : bulkCue ls ≤ 1048576 := by have := good_bulk hg hl.2; omega
  have TF := Lib.hid (timeFacts hok)
  have CS := Lib.hid (fun W h => implSta (.slice L ls.length cl) ls w.heap.size W h hbk)
  have CT := Lib.hid (fun W h => implLat (.slice L ls.length cl) ls w.heap.size W h hbk)
  have CP := Lib.hid (fun W h => implPla (.slice L ls.length cl) ls w.heap.size W h hbk)
  have CQ := Lib.hid (fun W h => implPln (.slice L ls.length cl) ls w.heap.size W h hbk)
  have CI := Lib.hid (fun u zs b W h h2 hz => implIsP (.slice L ls.length cl) ls w.heap.size W h hbk u zs b h2 hz)
  have CC := Lib.hid (fun u zs b W h h2 hz => implCla (.slice L ls.length cl) ls w.heap.size W h hbk u zs b h2 hz)
  have FT := Lib.hid (fun k (hk : k < ls.length) => (cue_fine hok hk).1)
  have l1 := (timeFacts hok).lens.1
  have l2 := (timeFacts hok).lens.2.1
  have l3 := (timeFacts hok).lens.2.2
  have hn7 := hl.2
  have PL := Lib.hid ((timeFacts hok).plan (by omega))
  have BO := Lib.hid ((timeFacts hok).both (by omega))
  have pp := (timeFacts hok).play
  have L1 := Lib.hid l1
  have L2 := Lib.hid l2
  have L3 := Lib.hid l3
  have HOK := Lib.hid hok
  clear o1 b1 CD hm hn hok hg hbk
  go_wp2_with fail
  refine (CS.out _ O1.out).mono ?_
  rintro e w2 ⟨vs, rfl, o2, b2⟩
  obtain ⟨S, cs, e2⟩ := o2.slice
  rw [L1.out] at e2
  subst e2
  have S2 := Lib.hid (o2.mono B1.out.size)
  have O2 := Lib.hid (O1.out.below b2)
  have B2 := Lib.hid (B1.out.trans (b2.mono B1.out.size))
  clear o2 b2 O1 B1 CS l1
  go_wp2_with fail
  refine (CT.out _ O2.out).mono ?_
  rintro e w3 ⟨vt, rfl, o3, b3⟩
  obtain ⟨T, ct, e3⟩ := o3.slice
  rw [L2.out] at e3
  subst e3
  have T3 := Lib.hid (o3.mono B2.out.size)
  have S3 := Lib.hid (S2.out.below b3)
  have O3 := Lib.hid (O2.out.below b3)
  have B3 := Lib.hid (B2.out.trans (b3.mono B2.out.size))
  clear o3 b3 O2 B2 S2 CT l2
  go_wp2_with fail
  refine (CP.out _ O3.out).mono ?_
  rintro e w4 ⟨rfl, b4⟩
  have T4 := Lib.hid (T3.out.below b4)
  have S4 := Lib.hid (S3.out.below b4)
  have O4 := Lib.hid (O3.out.below b4)
  have B4 := Lib.hid (B3.out.trans (b4.mono B3.out.size))
  clear b4 O3 B3 S3 T3 CP
  go_wp2_with fail
  refine (CQ.out _ O4.out).mono ?_
  rintro e w5 ⟨vp, rfl, o5, b5⟩
  obtain ⟨P, cp, e5⟩ := o5.slice
  rw [L3.out] at e5
  subst e5
  have P5 := Lib.hid (o5.mono B4.out.size)
  have T5 := Lib.hid (T4.out.below b5)
  have S5 := Lib.hid (S4.out.below b5)
  have O5 := Lib.hid (O4.out.below b5)
  have B5 := Lib.hid (B4.out.trans (b5.mono B4.out.size))
  clear o5 b5 O4 B4 S4 T4 CQ l3
  go_wp2_with fail
  refine (CI.out _ _ _ _ O5.out P5.out (by have := L3.out; omega)).mono ?_
  rintro e w6 ⟨rfl, b6⟩
  rw [PL.out.1]
  have P6 := Lib.hid (P5.out.below b6)
  have T6 := Lib.hid (T5.out.below b6)
  have S6 := Lib.hid (S5.out.below b6)
  have O6 := Lib.hid (O5.out.below b6)
  have B6 := Lib.hid (B5.out.trans (b6.mono B5.out.size))
  clear b6 O5 B5 S5 T5 P5
  go_wp2_with fail
  refine (CC.out _ _ _ _ O6.out P6.out (by have := L3.out; omega)).mono ?_
  rintro e w7 ⟨vc, rfl, o7, b7⟩
  rw [PL.out.2] at o7
  obtain ⟨C, cc, rfl⟩ := o7.slice
  have P7 := Lib.hid (P6.out.below b7)
  have T7 := Lib.hid (T6.out.below b7)
  have S7 := Lib.hid (S6.out.below b7)
  have O7 := Lib.hid (O6.out.below b7)
  have B7 := Lib.hid (B6.out.trans (b7.mono B6.out.size))
  clear b7 o7 O6 B6 S6 T6 P6 PL
  simp only [List.length_nil]
  have PB := Lib.hid (fun k => TF.out.pb k)
  have FB := Lib.hid (fun W (hb : Below w7.heap.size w7 W) => (show OwnCue W w.heap.size (.slice L ls.length cl) ls ∧ OwnI W w.heap.size (.slice S ls.length cs) (startsOf ls) ∧ OwnI W w.heap.size (.slice T ls.length ct) (latestStarts ls) ∧ OwnI W w.heap.size (.slice P ls.length cp) (simplePlan ls) ∧ Below w.heap.size w W from ⟨O7.out.below hb, S7.out.below hb, T7.out.below hb, P7.out.below hb, B7.out.trans (hb.mono B7.out.size)⟩))
  have ES := Lib.hid (end_small (ls := ls) (m := 8450) (by omega) (fun k hk => by have := (PB.out k).2; have := (FT.out k hk).2; unfold tk; omega))
  clear O7 S7 T7 P7 B7
  go_wp2_with fail
  go_loopw [8, 9, 10] (fun tv ev kv wr => ∃ k : Nat, k ≤ ls.length ∧ tv = .int .i64 (tiTo ls k) ∧ ev = .int .i64 (endTo ls k) ∧ kv = .int .i64 (k : Int) ∧ Hid (Below w7.heap.size w7 wr)) (fun _ _ kv _ => ls.length - (intOf kv).toNat)
  case atStart => exact ⟨0, by omega, rfl, rfl, rfl, Lib.hid (Below.refl _ _)⟩
  case round =>
    obtain ⟨k, hk, rfl, rfl, rfl, BW⟩ := hrel
    have gA : ∀ (zs : List Int) t (ht : t < zs.length), zs[t] = zs.getD t 0 := fun zs t ht => by rw [List.getD_eq_getElem?_getD, List.getElem?_eq_getElem ht]; rfl
    by_cases hlt : k < ls.length
    rotate_left
    · obtain rfl : k = ls.length := by omega
      obtain ⟨O8, S8, T8, P8, B8⟩ := FB.out _ BW.out
      obtain ⟨t, ht, hq, hp⟩ := TF.out.tight
      have ht1 := ti_some hq ls.length ht
      have he1 : playTime ls ≤ endTo ls ls.length := by
        have := end_ge ls ls.length t ht
        have := TF.out.sp t ht
        omega
      have SZ := Lib.hid S8
      have OZ := Lib.hid O8
      have BZ := Lib.hid B8
      have cl144 := clashes_len ls (startsOf ls)
      have CX := Lib.hid (CC.out (.slice S ls.length cs) (startsOf ls) w.heap.size wr O8 S8 (by have := L1.out; omega))
      generalize clashesIn ls (startsOf ls) = ps at CX BO cl144
      have CIX := Lib.hid (fun W (hb : Below wr.heap.size wr W) => CI.out (.slice S ls.length cs) (startsOf ls) w.heap.size W (OZ.out.below hb) (SZ.out.below hb) (by have := L1.out; omega))
      generalize isPlan ls (startsOf ls) = ip at CIX BO
      generalize tiTo ls ls.length = tn at ht1
      generalize endTo ls ls.length = en at he1
      generalize playTime ls = pn at he1 pp hp
      clear O8 S8 T8 P8 B8 gA hlt hk hq hp CI CC
      have pp1 := pp.1
      go_wp2_with fail
      refine CX.out.mono ?_
      rintro e w8 ⟨v8, rfl, o8, b8⟩
      obtain ⟨D, cd, rfl⟩ := o8.slice
      have C9 := Lib.hid (CIX.out _ b8)
      have B9 := Lib.hid (BZ.out.trans (b8.mono BZ.out.size))
      clear o8 b8 CX CIX
      have BO2 := BO.out
      have HB9 := B9.out.size
      by_cases h0 : ps.length = 0
      · rw [decide_eq_true h0] at BO2
        rw [BO2] at C9
        have hz : ((ps.length : Int) == 0) = true := by rw [h0]; rfl
        clear BO BO2
        go_wp2_with fail
        refine C9.out.mono ?_
        rintro e w10 ⟨rfl, b10⟩
        have B10 := Lib.hid (B9.out.trans (b10.mono HB9))
        clear b10
        go_wp2
        go_ret
        exact ⟨rfl, B10.out⟩
      · rw [decide_eq_false h0] at BO2
        rw [BO2] at C9
        have hz : ((ps.length : Int) == 0) = false := by simp; exact fun e => h0 (by rw [e]; rfl)
        clear BO BO2
        go_wp2_with fail
        refine C9.out.mono ?_
        rintro e w10 ⟨rfl, b10⟩
        have B10 := Lib.hid (B9.out.trans (b10.mono HB9))
        clear b10
        go_wp2
        go_ret
        exact ⟨rfl, B10.out⟩
    have hk0 : (0 : Int) ≤ (k : Int) := by omega
    have hk1 : (k : Int) < (ls.length : Int) := by omega
    obtain ⟨O8, S8, T8, P8, -⟩ := FB.out _ BW.out
    obtain ⟨gs, _, f1, -, -, y0, -⟩ := S8.spot (k := k) (by rw [L1.out]; exact hlt)
    simp only [Value.slice.injEq] at f1
    obtain ⟨rfl, -, rfl⟩ := f1
    obtain ⟨gt, _, f1, -, -, y1, -⟩ := T8.spot (k := k) (by rw [L2.out]; exact hlt)
    simp only [Value.slice.injEq] at f1
    obtain ⟨rfl, -, rfl⟩ := f1
    obtain ⟨gp, _, f1, -, -, y2, -⟩ := P8.spot (k := k) (by rw [L3.out]; exact hlt)
    simp only [Value.slice.injEq] at f1
    obtain ⟨rfl, -, rfl⟩ := f1
    obtain ⟨gl, _, A1, c1, _, _, f1, -, ⟨t0, x1, -⟩, ⟨o1, -⟩, -⟩ := O8.spot hlt
    simp only [Value.slice.injEq] at f1
    obtain ⟨rfl, -, rfl⟩ := f1
    have hed : ls[k] = ls.getD k RCue.zero := by rw [List.getD_eq_getElem?_getD, List.getElem?_eq_getElem hlt]; rfl
    rw [gA] at y0 y1 y2
    rw [hed] at t0 x1 o1
    have Y0 := Lib.hid (show ∀ W, Below wr.heap.size wr W → W.cell? ⟨gs, k, none⟩ = some (.int .i64 ((startsOf ls).getD k 0)) from fun W hb => cell_below y0 hb)
    have Y1 := Lib.hid (show ∀ W, Below wr.heap.size wr W → W.cell? ⟨gt, k, none⟩ = some (.int .i64 ((latestStarts ls).getD k 0)) from fun W hb => cell_below y1 hb)
    have X1 := Lib.hid (show ∀ W, Below wr.heap.size wr W → W.cell? ⟨gl, k * 3 + 1, none⟩ = some (.slice A1 (ls.getD k RCue.zero).f1.length c1) ∧ OwnI W w.heap.size (.slice A1 (ls.getD k RCue.zero).f1.length c1) (ls.getD k RCue.zero).f1 from fun W hb => ⟨cell_below x1 hb, o1.below hb⟩)
    have st := TF.out.st k hlt
    have sp := TF.out.sp k hlt
    have s0 := TF.out.s0 k hlt
    have te := TF.out.te k hlt
    have pb := TF.out.pb k
    have ft := FT.out k hlt
    have es := ES.out k hk
    have ts := ti_small ls k
    have SN := Lib.hid (TF.out.sn k hlt)
    have TN := Lib.hid (TF.out.tn k hlt)
    have TI := Lib.hid (show tiTo ls (k + 1) = tiTo ls k + (if (startsOf ls).getD k 0 = (latestStarts ls).getD k 0 then 1 else 0) from rfl)
    have EN := Lib.hid (show endTo ls (k + 1) = if endTo ls k < (simplePlan ls).getD k 0 + tk ls k then (simplePlan ls).getD k 0 + tk ls k else endTo ls k from rfl)
    obtain ⟨F, hF⟩ : ∃ F, nn ls k = F := ⟨_, rfl⟩
    unfold tk at te EN
    rw [hF] at SN TN
    unfold nn at hF
    rw [hF] at X1 x1
    have HF := Lib.hid hF
    have CF := Lib.hid ((cue_fine HOK.out hlt).2)
    have PM := after_max HOK.out hlt
    rw [hF] at CF PM
    generalize (ls.getD k RCue.zero).f0 = t at t0 te ft EN
    generalize playTime ls = pn at te pp
    generalize (simplePlan ls).getD k 0 = pv at y2 sp pb EN
    obtain ⟨sv, hsv⟩ : ∃ x, (startsOf ls).getD k 0 = x := ⟨_, rfl⟩
    obtain ⟨tv, htv⟩ : ∃ x, (latestStarts ls).getD k 0 = x := ⟨_, rfl⟩
    rw [hsv] at y0 st sp s0 TI SN Y0
    rw [htv] at y1 st te TI TN Y1
    obtain ⟨bv, hbv⟩ : ∃ x, (sv == tv) = x := ⟨_, rfl⟩
    obtain ⟨tx, htx, hx0, hx1⟩ : ∃ x : Int, (if bv = true then (1 : Int) else 0) = x ∧ 0 ≤ x ∧ x ≤ 1 := ⟨_, rfl, by split <;> omega, by split <;> omega⟩
    have TI2 := Lib.hid (show tiTo ls (k + 1) = tiTo ls k + tx by
      rw [TI.out, ← htx, ← hbv]
      congr 1
      by_cases c : sv = tv
      · rw [if_pos c, if_pos (by simpa using c)]
      · rw [if_neg c, if_neg (by simpa using c)])
    have BT := Lib.hid (fun W => (show Calls Try.prog 18 #[.bool bv] W fun e w' => e = .returned (.int .i64 tx) ∧ w' = W from (btoi_any bv W).mono fun e w' h => ⟨by rw [h.1, htx], h.2.symm⟩))
    generalize tiTo ls k = ta at ts TI2 ⊢
    generalize endTo ls k = ea at es EN ⊢
    have d1 : decide (tv < sv) = false := decide_eq_false (by omega)
    have d2 : decide (pv < sv) = false := decide_eq_false (by omega)
    have d3 : decide (sv < 0) = false := decide_eq_false (by omega)
    have d4 : decide (pn < tv + t) = false := decide_eq_false (by omega)
    have ew1 : IntKind.i64.wrap (tv + t) = tv + t := IntWalk.i64_in _ (by omega)
    have ew2 : IntKind.i64.wrap (pv + t) = pv + t := IntWalk.i64_in _ (by omega)
    have ew3 : IntKind.i64.wrap (ta + tx) = ta + tx := IntWalk.i64_in _ (by omega)
    have KF := Lib.hid (show ∀ W, Below wr.heap.size wr W → W.cell? ⟨gs, k, none⟩ = some (.int .i64 sv) ∧ W.cell? ⟨gt, k, none⟩ = some (.int .i64 tv) ∧ W.cell? ⟨gp, k, none⟩ = some (.int .i64 pv) ∧ W.cell? ⟨gl, k * 3, none⟩ = some (.int .i64 t) from fun W hb => ⟨cell_below y0 hb, cell_below y1 hb, cell_below y2 hb, cell_below t0 hb⟩)
    clear TI hsv htv htx hF hed O8 S8 T8 P8 o1 gA x1
    go_wp2_with fail
    go_quiet (fail)
    have WA := Lib.hid (below_drewN (Below.refl wr.heap.size wr) nq)
    have Ka := KF.out _ WA.out
    clear y0 y1 y2 t0
    generalize wr.drewN nq = wa at Ka WA ⊢
    obtain ⟨y0, y1, y2, t0⟩ := Ka
    clear nq
    go_wp2_with fail
    go_quiet (first | (go_at_call 18; refine Calls.quiet_of_same (BT.out _)))
    have WB := Lib.hid (WA.out.trans (below_drewN (Below.refl wr.heap.size wa) nq))
    have Ka := KF.out _ WB.out
    clear y0 y1 y2 t0 WA
    generalize wa.drewN nq = wb at Ka WB ⊢
    obtain ⟨y0, y1, y2, t0⟩ := Ka
    clear nq
    go_wp2_with fail
    go_quiet (fail)
    have WC := Lib.hid (WB.out.trans (below_drewN (Below.refl wr.heap.size wb) nq))
    clear y0 y1 y2 t0 WB KF
    generalize wb.drewN nq = wc at WC ⊢
    generalize (if ea < pv + t then pv + t else ea) = mx at EN ⊢
    clear nq
    go_wp2_with fail
    go_loopw [11] (fun jv wq => ∃ j : Nat, j ≤ F ∧ jv = .int .i64 (j : Int) ∧ Hid (Below wr.heap.size wr wq)) (fun jv _ => F - (intOf jv).toNat)
    case atStart => exact ⟨0, by omega, rfl, WC⟩
    case round =>
      clear WC
      obtain ⟨j, hj, rfl, WQ⟩ := hrel
      obtain ⟨x1, o1⟩ := X1.out _ WQ.out
      have BW2 := Lib.hid (BW.out.trans (WQ.out.mono BW.out.size))
      by_cases hlj : j < F
      rotate_left
      · obtain rfl : j = F := by omega
        clear o1
        go_wp2
        exact ⟨⟨k + 1, by omega, by rw [TI2.out], by rw [EN.out], by go_num, BW2⟩, by simp [intOf]; omega⟩
      have gA : ∀ (zs : List Int) t (ht : t < zs.length), zs[t] = zs.getD t 0 := fun zs t ht => by rw [List.getD_eq_getElem?_getD, List.getElem?_eq_getElem ht]; rfl
      have hj0 : (0 : Int) ≤ (j : Int) := by omega
      have hj1 : (j : Int) < (F : Int) := by omega
      obtain ⟨q0, q1⟩ := CF.out j hlj
      obtain ⟨q, hq⟩ := Int.eq_ofNat_of_zero_le q0
      rw [hq] at q0 q1
      have hnm : nm ls k j = q := by unfold nm; rw [hq, Int.toNat_natCast]
      obtain ⟨ga, _, e1, -, -, z0, -⟩ := o1.spot (k := j) (by rw [HF.out]; exact hlj)
      simp only [Value.slice.injEq] at e1
      obtain ⟨rfl, -, rfl⟩ := e1
      rw [gA, hq] at z0
      have hql : q < ls.length := by omega
      obtain ⟨O9, S9, T9, -, -⟩ := FB.out _ BW2.out
      obtain ⟨_, _, f1, -, -, u0, -⟩ := S9.spot (k := q) (by rw [L1.out]; exact hql)
      simp only [Value.slice.injEq, Option.some.injEq, Addr.mk.injEq] at f1
      obtain ⟨⟨rfl, _⟩, -, -⟩ := f1
      obtain ⟨_, _, f1, -, -, u1, -⟩ := T9.spot (k := q) (by rw [L2.out]; exact hql)
      simp only [Value.slice.injEq, Option.some.injEq, Addr.mk.injEq] at f1
      obtain ⟨⟨rfl, _⟩, -, -⟩ := f1
      obtain ⟨_, _, _, _, _, _, f1, -, ⟨u2, -, -⟩, -⟩ := O9.spot hql
      simp only [Value.slice.injEq, Option.some.injEq, Addr.mk.injEq] at f1
      obtain ⟨⟨rfl, _⟩, -, -⟩ := f1
      rw [gA] at u0 u1
      rw [show ls[q] = ls.getD q RCue.zero from by rw [List.getD_eq_getElem?_getD, List.getElem?_eq_getElem hql]; rfl] at u2
      have y0 := Y0.out _ WQ.out
      have y1 := Y1.out _ WQ.out
      have sn := (SN.out j hlj).2
      have tn := TN.out j hlj
      have s9 := TF.out.s0 q hql
      have t9 := TF.out.st q hql
      have f9 := FT.out q hql
      rw [hnm] at sn tn
      unfold tk at sn tn
      generalize (startsOf ls).getD q 0 = sq at u0 sn s9 t9
      generalize (latestStarts ls).getD q 0 = tq at u1 tn t9
      generalize (ls.getD q RCue.zero).f0 = kq at u2 sn tn f9
      have d5 : decide (sv < sq + kq) = false := decide_eq_false (by omega)
      have d6 : decide (tv < tq + kq) = false := decide_eq_false (by omega)
      have ew4 : IntKind.i64.wrap (sq + kq) = sq + kq := IntWalk.i64_in _ (by omega)
      have ew5 : IntKind.i64.wrap (tq + kq) = tq + kq := IntWalk.i64_in _ (by omega)
      have WD := Lib.hid (fun m => (below_drewN WQ.out m))
      clear O9 S9 T9 gA o1 hq hnm
      go_wp2_with fail
      go_quiet (fail)
      go_wp2
      exact ⟨⟨j + 1, by omega, by go_num, Lib.hid (WD.out _)⟩, by simp [intOf]; omega⟩
end Go.Proofs.Ytbgogcobkiaejac
