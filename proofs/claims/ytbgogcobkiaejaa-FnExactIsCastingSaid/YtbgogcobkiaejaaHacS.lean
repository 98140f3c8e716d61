/- The contract of spec.IsCasting. Condition: the players and the numbers lie in rows of their own. -/
import Derived.Test.YtbgogcobkiaejaaPokS
import Derived.Test.YtbgogcobkiaejaaLoaS
import Derived.Deep.RegionHeld3
namespace Go.Proofs.Ytbgogcobkiaejaa
set_option linter.unusedVariables false
set_option linter.unusedSimpArgs false
open Go.RowKit

set_option maxRecDepth 100000 in
set_option maxHeartbeats 3200000 in
theorem specCas (v : Value) (ls : List RPlayer) (b : Nat) (w : World) (h : OwnPlayer w b v ls) (hl : ls.length ≤ 2000000) (hr : ∀ k (hk : k < ls.length), ls[k].f0.length ≤ 2000000) (u : Value) (ps : List Int) (b2 : Nat) (h2 : OwnI w b2 u ps) (hp : ps.length ≤ 2000000)
    (x : Value) (cs : List Int) (b3 : Nat) (h3 : OwnI w b3 x cs) (hc : cs.length ≤ 2000000) :
    Calls Try.prog 29 #[v, u, x] w fun e w' => e = .returned (.bool (isCasting ls ps cs)) ∧ Below w.heap.size w w' := by
  have CK := Lib.hid (specPOk v ls b w h hl hr)
  have CR := Lib.hid (fun W h => specRise u ps 6 b2 W h hp)
  have CL := Lib.hid (fun W h h3 => specLoa v ls b W h hl hr x cs b3 h3 hc)
  have C0 := Lib.hid (fun v lo hi W => l01In_any v lo hi W)
  obtain ⟨A, c, rfl⟩ := h.slice
  obtain ⟨D, d, rfl⟩ := h2.slice
  obtain ⟨X, cx, rfl⟩ := h3.slice
  have O := Lib.hid h
  have P := Lib.hid h2
  have Z := Lib.hid h3
  have HR := Lib.hid hr
  clear h h2 h3 hr
  cases hok : playersOk ls with
  | false =>
    have R := Lib.hid (show isCasting ls ps cs = false by unfold isCasting; rw [hok]; rfl)
    rw [hok] at CK
    go_enter Try.func29, Try.ntmps29
    go_wp2_with (go_at_call 20; refine CK.out.mono ?_; rintro e w1 ⟨rfl, b1⟩; have B1 := Lib.hid b1; clear b1)
    go_ret
    exact ⟨by rw [R.out]; rfl, B1.out⟩
  | true =>
  have hn := (playersOk_has hok).1
  rw [hok] at CK
  cases hris : rising ps 6 with
  | false =>
    have R := Lib.hid (show isCasting ls ps cs = false by unfold isCasting; rw [hok, hris]; rfl)
    rw [hris] at CR
    go_enter Try.func29, Try.ntmps29
    go_wp2_with fail
    refine CK.out.mono ?_
    rintro e w1 ⟨rfl, b1⟩
    go_wp2_with fail
    refine (CR.out _ (P.out.below b1)).mono ?_
    rintro e w2 ⟨rfl, b2⟩
    have B2 := Lib.hid (b1.trans (b2.mono b1.size))
    clear b1 b2
    go_wp2
    go_ret
    exact ⟨by rw [R.out]; rfl, B2.out⟩
  | true =>
  rw [hris] at CR
  by_cases hlen : cs.length = ps.length
  rotate_left
  · have R := Lib.hid (show isCasting ls ps cs = false by unfold isCasting; rw [hok, hris, decide_eq_false hlen]; rfl)
    have hne : ((cs.length : Int) == (ps.length : Int)) = false := by rw [beq_eq_false_iff_ne]; omega
    clear hris hok
    generalize cs.length = n1 at *
    generalize ps.length = n2 at *
    go_enter Try.func29, Try.ntmps29
    go_wp2_with fail
    refine CK.out.mono ?_
    rintro e w1 ⟨rfl, b1⟩
    go_wp2_with fail
    refine (CR.out _ (P.out.below b1)).mono ?_
    rintro e w2 ⟨rfl, b2⟩
    have B2 := Lib.hid (b1.trans (b2.mono b1.size))
    clear b1 b2
    go_wp2
    go_ret
    exact ⟨by rw [R.out]; rfl, B2.out⟩
  have h7 := rising_seven hris
  have RN1 := Lib.hid (show ∀ k, k < cs.length → castAt ls ps cs k = false → isCasting ls ps cs = false from fun k hk e => by unfold isCasting; rw [range_no hk e]; simp)
  have RN2 := Lib.hid (show ∀ k, k < ls.length → loadFit ls cs k = false → isCasting ls ps cs = false from fun k hk e => by unfold isCasting; rw [range_no hk e]; simp)
  have RY := Lib.hid (show (∀ k, k < cs.length → castAt ls ps cs k = true) → (∀ k, k < ls.length → loadFit ls cs k = true) → isCasting ls ps cs = true from fun e1 e2 => by
    unfold isCasting
    rw [hok, hris, decide_eq_true hlen, range_yes e1, range_yes e2]
    rfl)
  have LD := Lib.hid (show loadOf ls cs = loadTo cs ls.length by unfold loadOf; rw [if_pos hok])
  have FN := Lib.hid (fun k (hk : k < ls.length) => (player_fine ((playersOk_has hok).2 k hk)).2)
  have HL := Lib.hid hlen
  rw [LD.out] at CL
  rw [hlen] at Z ⊢
  have hne : ((ps.length : Int) == (ps.length : Int)) = true := by simp
  clear hok hris hlen LD
  rw [HL.out] at RN1 RY CL
  go_enter Try.func29, Try.ntmps29
  go_wp2_with fail
  refine CK.out.mono ?_
  rintro e w1 ⟨rfl, b1⟩
  go_wp2_with fail
  refine (CR.out _ (P.out.below b1)).mono ?_
  rintro e w2 ⟨rfl, b2⟩
  have B2 := Lib.hid (b1.trans (b2.mono b1.size))
  clear b1 b2 CK CR
  go_wp2_with fail
  go_loopw [7] (fun iv wr => ∃ k : Nat, k ≤ ps.length ∧ iv = .int .i64 (k : Int) ∧ Hid (∀ i, i < k → castAt ls ps cs i = true) ∧ Hid (Below w.heap.size w wr)) (fun iv _ => ps.length - (intOf iv).toNat)
  case atStart => exact ⟨0, by omega, rfl, Lib.hid (fun i hi => absurd hi (by omega)), B2⟩
  case round =>
    clear B2
    obtain ⟨k, hk, rfl, HN, BW⟩ := hrel
    by_cases hlt : k < ps.length
    rotate_left
    · obtain rfl : k = ps.length := by omega
      have RY2 := Lib.hid (RY.out HN.out)
      have LA := Lib.hid (load_at cs ls.length)
      have ll := load_len cs ls.length
      generalize loadTo cs ls.length = lo at CL LA ll
      go_wp2_with fail
      refine (CL.out _ (O.out.below BW.out) (Z.out.below BW.out)).mono ?_
      rintro e w4 ⟨v4, rfl, o4, b4⟩
      obtain ⟨Q, cq, e4⟩ := o4.slice
      rw [ll] at e4
      subst e4
      have O4 := Lib.hid o4
      have B4 := Lib.hid (BW.out.trans (b4.mono BW.out.size))
      have LL := Lib.hid ll
      clear b4 o4 CL ll BW
      go_wp2_with fail
      go_loopw [9] (fun iv wr => ∃ k : Nat, k ≤ ls.length ∧ iv = .int .i64 (k : Int) ∧ Hid (∀ i, i < k → loadFit ls cs i = true) ∧ Hid (Below w4.heap.size w4 wr)) (fun iv _ => ls.length - (intOf iv).toNat)
      case atStart => exact ⟨0, by omega, rfl, Lib.hid (fun i hi => absurd hi (by omega)), Lib.hid (Below.refl _ _)⟩
      case round =>
        obtain ⟨k, hk, rfl, HM, BW⟩ := hrel
        have BZ := Lib.hid (B4.out.trans (BW.out.mono B4.out.size))
        by_cases hlt : k < ls.length
        rotate_left
        · obtain rfl : k = ls.length := by omega
          have R := Lib.hid (RY2.out HM.out)
          go_wp2
          go_ret
          exact ⟨by rw [R.out]; rfl, BZ.out⟩
        have hk0 : (0 : Int) ≤ (k : Int) := by omega
        have hk1 : (k : Int) < (ls.length : Int) := by omega
        obtain ⟨gq, _, f1, _, _, z0, _⟩ := (O4.out.below BW.out).spot (k := k) (by rw [LL.out]; exact hlt)
        simp only [Value.slice.injEq] at f1
        obtain ⟨rfl, -, rfl⟩ := f1
        rw [show lo[k]'(by rw [LL.out]; exact hlt) = cntI cs (k : Int) cs.length from by have := LA.out k hlt; rw [List.getD_eq_getElem?_getD, List.getElem?_eq_getElem (by rw [LL.out]; exact hlt)] at this; exact this] at z0
        obtain ⟨g, _, A1, c1, f1, -, ⟨-, x1⟩, -, -⟩ := (O.out.below BZ.out).spot hlt
        simp only [Value.slice.injEq] at f1
        obtain ⟨rfl, -, rfl⟩ := f1
        have FT := Lib.hid (show loadFit ls cs k = !decide (ls[k].f1 < cntI cs (k : Int) cs.length) by unfold loadFit; rw [getP hlt])
        have RX := Lib.hid (RN2.out k hlt)
        have NX := Lib.hid (show loadFit ls cs k = true → ∀ i, i < k + 1 → loadFit ls cs i = true from fun e i hi => by
          rcases (by omega : i < k ∨ i = k) with q | rfl
          · exact HM.out i q
          · exact e)
        have WY := Lib.hid (fun m => (below_drewN BW.out m : Below w4.heap.size w4 (wr.drewN m)))
        have WZ := Lib.hid (fun m => (below_drewN BZ.out m : Below w.heap.size w (wr.drewN m)))
        generalize ls[k].f1 = t at x1 FT
        generalize cntI cs (k : Int) cs.length = m at z0 FT
        by_cases hc : t < m
        · have R := Lib.hid (RX.out (by rw [FT.out, decide_eq_true hc]; rfl))
          have d1 : decide (t < m) = true := decide_eq_true hc
          clear NX
          go_wp2_with fail
          go_quiet (fail)
          go_wp2
          go_ret
          exact ⟨by rw [R.out]; rfl, WZ.out _⟩
        · have N2 := Lib.hid (NX.out (by rw [FT.out, decide_eq_false hc]; rfl))
          have d1 : decide (t < m) = false := decide_eq_false hc
          clear NX
          go_wp2_with fail
          go_quiet (fail)
          go_wp2
          exact ⟨⟨k + 1, by omega, by go_num, N2, Lib.hid (WY.out _)⟩, by simp [intOf]; omega⟩
    have hk0 : (0 : Int) ≤ (k : Int) := by omega
    have hk1 : (k : Int) < (ps.length : Int) := by omega
    obtain ⟨gc, _, f1, _, _, z0, _⟩ := (Z.out.below BW.out).spot (k := k) (by rw [HL.out]; exact hlt)
    simp only [Value.slice.injEq] at f1
    obtain ⟨rfl, -, rfl⟩ := f1
    obtain ⟨gp, _, f1, _, _, p0, _⟩ := (P.out.below BW.out).spot hlt
    simp only [Value.slice.injEq] at f1
    obtain ⟨rfl, -, rfl⟩ := f1
    have gA : ∀ (zs : List Int) t (ht : t < zs.length), zs[t] = zs.getD t 0 := fun zs t ht => by rw [List.getD_eq_getElem?_getD, List.getElem?_eq_getElem ht]; rfl
    rw [gA] at z0 p0
    have AT := Lib.hid (show castAt ls ps cs k = (inB (cs.getD k 0) 0 ((ls.length : Int) - 1) && knowsB (ls.getD (cs.getD k 0).toNat RPlayer.zero) (ps.getD k 0)) from rfl)
    have RX := Lib.hid (RN1.out k hlt)
    have NX := Lib.hid (show castAt ls ps cs k = true → ∀ i, i < k + 1 → castAt ls ps cs i = true from fun e i hi => by
      rcases (by omega : i < k ∨ i = k) with q | rfl
      · exact HN.out i q
      · exact e)
    have hbs := BW.out.size
    have ew : IntKind.i64.wrap ((ls.length : Int) - 1) = (ls.length : Int) - 1 := IntWalk.i64_in _ (by omega)
    generalize cs.getD k 0 = y at z0 AT
    generalize ps.getD k 0 = z at p0 AT
    cases hin : inB y 0 ((ls.length : Int) - 1) with
    | false =>
      have R := Lib.hid (RX.out (by rw [AT.out, hin]; rfl))
      have C1 := Lib.hid (fun W => (hin ▸ C0.out y 0 ((ls.length : Int) - 1) W : Calls Try.prog 43 #[.int .i64 y, .int .i64 0, .int .i64 ((ls.length : Int) - 1)] W fun e w' => e = .returned (.bool false) ∧ w' = W))
      have WY := Lib.hid (fun m => (below_drewN BW.out m : Below w.heap.size w (wr.drewN m)))
      clear hin NX AT gA
      go_wp2_with fail
      go_quiet (first | (go_at_call 43; refine Calls.quiet_of_same (C1.out _)))
      go_wp2
      go_ret
      exact ⟨by rw [R.out]; rfl, WY.out _⟩
    | true =>
      have C1 := Lib.hid (fun W => (hin ▸ C0.out y 0 ((ls.length : Int) - 1) W : Calls Try.prog 43 #[.int .i64 y, .int .i64 0, .int .i64 ((ls.length : Int) - 1)] W fun e w' => e = .returned (.bool true) ∧ w' = W))
      have hyr : 0 ≤ y ∧ y ≤ (ls.length : Int) - 1 := by simpa [inB] using hin
      obtain ⟨q, rfl⟩ := Int.eq_ofNat_of_zero_le hyr.1
      have hql : q < ls.length := by omega
      have hq0 : (0 : Int) ≤ (q : Int) := by omega
      have hq1 : (q : Int) < (ls.length : Int) := by omega
      obtain ⟨g, _, A1, c1, f1, -, ⟨x0, x1⟩, o1, -⟩ := (O.out.below BW.out).spot hql
      simp only [Value.slice.injEq] at f1
      obtain ⟨rfl, -, rfl⟩ := f1
      rw [Int.toNat_natCast, getP hql] at AT
      have KN := Lib.hid (fun W (hb : Below wr.heap.size wr W) => specKno ls[q] (.slice A1 ls[q].f0.length c1) z b W (o1.below hb) (HR.out q hql))
      generalize ls[q].f0.length = n1 at x0 KN
      generalize ls[q].f1 = t1 at x1 KN
      have XC := Lib.hid (show wr.cell? ⟨gc, k, none⟩ = some (.int .i64 (q : Int)) ∧ wr.cell? ⟨gp, k, none⟩ = some (.int .i64 z) ∧ wr.cell? ⟨g, q * 2, none⟩ = some (.slice A1 n1 c1) ∧ wr.cell? ⟨g, q * 2 + 1, none⟩ = some (.int .i64 t1) from ⟨z0, p0, x0, x1⟩)
      clear hin hyr o1 gA
      cases hkb : knowsB ls[q] z with
      | false =>
        have R := Lib.hid (RX.out (by rw [AT.out, hkb, Bool.and_false]))
        rw [hkb] at KN
        clear NX AT hkb
        go_wp2_with fail
        go_region_held3 (fun W => W.cell? ⟨gc, k, none⟩ = some (.int .i64 (q : Int)) ∧ W.cell? ⟨gp, k, none⟩ = some (.int .i64 z) ∧ W.cell? ⟨g, q * 2, none⟩ = some (.slice A1 n1 c1) ∧ W.cell? ⟨g, q * 2 + 1, none⟩ = some (.int .i64 t1))
          (first | exact XC.out | exact X2.out)
          (first | (go_at_call 43; refine (C1.out _).mono ?_; rintro e w3 ⟨rfl, rfl⟩) | (go_at_call 46; refine (KN.out _ (Below.refl _ _).drew).mono ?_; rintro e w2 ⟨rfl, b2⟩; have b3 := undrew b2; have X2 := Lib.hid (show _ ∧ _ ∧ _ ∧ _ from ⟨cell_below XC.out.1 b3, cell_below XC.out.2.1 b3, cell_below XC.out.2.2.1 b3, cell_below XC.out.2.2.2 b3⟩)))
        have B2 := Lib.hid (BW.out.trans ((undrew b2).mono hbs))
        clear b2 b3 XC X2
        go_wp2
        go_ret
        exact ⟨by rw [R.out]; rfl, B2.out⟩
      | true =>
        have N2 := Lib.hid (NX.out (by rw [AT.out, hkb, Bool.and_true]; simp [inB]; omega))
        rw [hkb] at KN
        clear NX AT hkb
        go_wp2_with fail
        go_region_held3 (fun W => W.cell? ⟨gc, k, none⟩ = some (.int .i64 (q : Int)) ∧ W.cell? ⟨gp, k, none⟩ = some (.int .i64 z) ∧ W.cell? ⟨g, q * 2, none⟩ = some (.slice A1 n1 c1) ∧ W.cell? ⟨g, q * 2 + 1, none⟩ = some (.int .i64 t1))
          (first | exact XC.out | exact X2.out)
          (first | (go_at_call 43; refine (C1.out _).mono ?_; rintro e w3 ⟨rfl, rfl⟩) | (go_at_call 46; refine (KN.out _ (Below.refl _ _).drew).mono ?_; rintro e w2 ⟨rfl, b2⟩; have b3 := undrew b2; have X2 := Lib.hid (show _ ∧ _ ∧ _ ∧ _ from ⟨cell_below XC.out.1 b3, cell_below XC.out.2.1 b3, cell_below XC.out.2.2.1 b3, cell_below XC.out.2.2.2 b3⟩)))
        have B2 := Lib.hid (BW.out.trans ((undrew b2).mono hbs))
        clear b2 b3 XC X2
        go_wp2
        exact ⟨⟨k + 1, by omega, by go_num, N2, B2⟩, by simp [intOf]; omega⟩
end Go.Proofs.Ytbgogcobkiaejaa
