/- The contract of the program's FirstCasting. Condition: the players and the numbers lie in rows of their own. -/
import Derived.Test.YtjpalndcfaeihaaSixI
import Derived.Test.YtjpalndcfaeihaaPoyA
import Derived.Test.YtjpalndcfaeihaaMadZ
import Derived.Test.YtjpalndcfaeihaaSetH
import Derived.Test.YtjpalndcfaeihaaIntB
import Derived.Deep.LoopGhost
import Derived.Scope
import Derived.WalkMore
namespace Go.Proofs.Ytjpalndcfaeihaa
set_option linter.unusedVariables false
set_option linter.unusedSimpArgs false
open Go.RowKit Go.Maps

theorem Going.six {ls : List RPlayer} {ps L0 : List Int} {cs : List Nat} {T : List Int → Bool} (g : Going ls ps L0 cs T) (h : HSix L0) : ∀ i, i ≤ cs.length → HSix (node L0 (cs.take i)) := by
  intro i
  induction i with
  | zero => intro _; exact h
  | succ i ih =>
    intro hi
    have q := ih (by omega)
    have d := g.did i (by omega)
    unfold can at d
    rw [Bool.and_eq_true] at d
    rw [take_snoc (by omega), node_snoc]
    exact q.take1 (of_decide_eq_true d.1)
theorem Going.sixAll {ls : List RPlayer} {ps L0 : List Int} {cs : List Nat} {T : List Int → Bool} (g : Going ls ps L0 cs T) (h : HSix L0) : HSix (node L0 cs) := by
  have := g.six h cs.length (Nat.le_refl _)
  rwa [List.take_length] at this
theorem six_list {M : List Int} (h : M.length = 6) : ∃ a0 a1 a2 a3 a4 a5, M = [a0, a1, a2, a3, a4, a5] := by
  match M, h with
  | [a0, a1, a2, a3, a4, a5], _ => exact ⟨a0, a1, a2, a3, a4, a5, rfl⟩
theorem roomI {w : World} {b : Nat} {A : Option Addr} {n c : Nat} {zs : List Int} (h : OwnI w b (.slice A n c) zs) : n ≤ c := by
  rcases h.2 with ⟨e, hn⟩ | ⟨g, cap, cur, e, _, _, hc, _⟩
  · simp only [Value.slice.injEq] at e; omega
  · simp only [Value.slice.injEq] at e; omega

set_option maxRecDepth 100000 in
set_option maxHeartbeats 6400000 in
theorem implFst (v : Value) (ls : List RPlayer) (b : Nat) (w : World) (h : OwnPlayer w b v ls) (hl : ls.length ≤ 2000000) (hr : ∀ k (hk : k < ls.length), ls[k].f0.length ≤ 2000000) (u : Value) (ps : List Int) (b2 : Nat) (h2 : OwnI w b2 u ps) (hp : ps.length ≤ 2000000) :
    Calls Try.prog 11 #[v, u] w (IntsB w (castR (firstCast ls ps))) := by
  have CK := Lib.hid (implPOk v ls b w h hl hr)
  have CR := Lib.hid (fun W h => implPup u ps b2 W h hp)
  have CW := Lib.hid (fun x W h => implWho v ls b W h hl hr x)
  have CA := Lib.hid (fun W h => implAll v ls b W h)
  obtain ⟨A, c, rfl⟩ := h.slice
  obtain ⟨D, d, rfl⟩ := h2.slice
  have O := Lib.hid h
  have P := Lib.hid h2
  clear h h2 hr
  cases hok : playersOk ls with
  | false =>
    have R := Lib.hid (show castR (firstCast ls ps) = ([], false) by unfold firstCast; rw [hok]; rfl)
    rw [hok] at CK
    go_enter Try.func11, Try.ntmps11
    go_wp2_with fail
    go_step3
    go_wp2_with (go_at_call 35; refine CK.out.mono ?_; rintro e w1 ⟨rfl, b1⟩; have B1 := Lib.hid b1; clear b1)
    rw [Exit.noGoto_ret]
    go_ret2
    exact ⟨_, by rw [R.out]; rfl, by rw [R.out]; exact ⟨rfl, .inl ⟨rfl, rfl⟩⟩, B1.out⟩
  | true =>
  have hn := (playersOk_has hok).1
  rw [hok] at CK
  cases hris : rising ps 6 with
  | false =>
    have R := Lib.hid (show castR (firstCast ls ps) = ([], false) by unfold firstCast; rw [hok, hris]; rfl)
    rw [hris] at CR
    go_enter Try.func11, Try.ntmps11
    go_wp2_with fail
    go_step3
    go_wp2_with (first | (go_at_call 35; refine CK.out.mono ?_; rintro e w1 ⟨rfl, b1⟩; have B1 := Lib.hid b1; clear b1) | (go_at_call 36; refine (CR.out _ (P.out.below B1.out)).mono ?_; rintro e w' ⟨rfl, rfl⟩))
    rw [Exit.noGoto_ret]
    go_ret2
    exact ⟨_, by rw [R.out]; rfl, by rw [R.out]; exact ⟨rfl, .inl ⟨rfl, rfl⟩⟩, B1.out⟩
  | true =>
  rw [hris] at CR
  have h7 := rising_seven hris
  have FC := Lib.hid (firstCast_sol hok hris)
  have WK := Lib.hid (fun x => (show whoKnows ls x = whoTo ls x ls.length by unfold whoKnows; rw [if_pos hok]))
  have hll : ls.length ≤ 6 := by omega
  have CA2 := Lib.hid (fun W h => CA.out W h hll)
  have Z6 := Lib.hid (freeSix_six hok)
  clear hok hris CA
  generalize freeSix ls 6 = L0 at FC CA2 Z6
  have L6 : L0.length = 6 := Z6.out.1
  have hmm := @run_makeMap Try.prog
  go_enter Try.func11, Try.ntmps11
  go_wp2_with fail
  go_step3
  go_wp2_with (first
    | (go_at_call 35; refine CK.out.mono ?_; rintro e w1 ⟨rfl, b1⟩; have B1 := Lib.hid b1; clear b1)
    | (go_at_call 36; refine (CR.out _ (P.out.below B1.out)).mono ?_; rintro e w' ⟨rfl, rfl⟩)
    | (go_at_call 37; refine (CA2.out _ (O.out.below B1.out)).mono ?_; rintro e w2 ⟨rfl, b2⟩; have B2 := Lib.hid (B1.out.trans (b2.mono B1.out.size)); clear b2)
    | (show wpList _ _ _ (Oper.mk _ (.store 50 _ _) _ _ _ _ :: _) _ _; refine wpList_store_new rfl 50 50 _ _ rfl _ ((L0.map intV).toArray) rfl rfl (info6_arr L6) (by simp [L6]) (one6 _) ?_
       have A3 := Lib.hid (arr6_new w2 w2.heap.size (L0.map intV).toArray L0 (by simp) L6 (Nat.le_refl _))
       have B3 := Lib.hid (B2.out.alloc B2.out.size (.cells (L0.map intV).toArray 50))
       have hb2 := B2.out.size))
  go_step3
  go_wp2_with fail
  generalize hG : w2.heap.size = g at A3 hb2 ⊢
  have hm0 : (w2.alloc (.cells (L0.map intV).toArray 50)).heap.size = g + 1 := by simp [hG]
  have A4 := Lib.hid (A3.out.alloc (.map #[] 0))
  have B4 := Lib.hid (B3.out.alloc B3.out.size (.map #[] 0))
  have S4 := Lib.hid (show SetH ((w2.alloc (.cells (L0.map intV).toArray 50)).alloc (.map #[] 0)) (g + 1) (sixes (fun _ => false)) (fun _ => false) from by
    have q := setH_made (w2.alloc (.cells (L0.map intV).toArray 50))
    rw [hm0] at q
    exact q.mono (Nat.zero_le _))
  clear hm0 hG A3 B3 CK CR CA2 hmm
  go_loopg [6] 1458 (fun k cv wr => ∃ (cs : List Nat) (T : List Int → Bool), 2 * (729 - sixes T) + cs.length ≤ k ∧ Hid (OwnI wr (g + 2) cv (cs.map fun c : Nat => (c : Int))) ∧ Hid (Arr6 wr g g (node L0 cs)) ∧ Hid (SetH wr (g + 1) (sixes T) T) ∧ Hid (Going ls ps L0 cs T) ∧ Hid (Below w.heap.size w wr))
  case atStart => exact ⟨[], fun _ => false, by simp; omega, Lib.hid ⟨rfl, .inl ⟨rfl, rfl⟩⟩, A4, S4, Lib.hid (going_start ls ps L0), B4⟩
  case round =>
    clear A4 B4 S4
    obtain ⟨cs, T, hk, OO, A6, ST, GG, BW⟩ := hrel
    have hlm : (cs.map fun c : Nat => (c : Int)).length = cs.length := List.length_map ..
    obtain ⟨Cx, cc, hcv⟩ := OO.out.slice
    rw [hlm] at hcv
    subst hcv
    have hbs := BW.out.size
    have h6 : ls.length ≤ L0.length := by omega
    by_cases hlt : cs.length < ps.length
    rotate_left
    · have hd : cs.length = ps.length := by have := GG.out.len; omega
      have R := Lib.hid (show castR (firstCast ls ps) = (cs.map (fun c : Nat => (c : Int)), true) by rw [FC.out, GG.out.full h6 hd]; rfl)
      have F := Lib.hid (OO.out.mono (show w.heap.size ≤ g + 2 by omega))
      have hn2 : ¬ ((cs.length : Int) < (ps.length : Int)) := by omega
      clear OO A6 ST GG hlm hd
      go_wp2_with fail
      try rw [Exit.noGoto_ret]
      go_ret2
      exact ⟨_, by rw [R.out]; rfl, by rw [R.out]; exact F.out, BW.out⟩
    have hd0 : (0 : Int) ≤ (cs.length : Int) := by omega
    have hd1 : (cs.length : Int) < (ps.length : Int) := by omega
    obtain ⟨gp, _, f1, _, _, p0, _⟩ := (P.out.below BW.out).spot hlt
    simp only [Value.slice.injEq] at f1
    obtain ⟨rfl, -, rfl⟩ := f1
    obtain ⟨x, hx⟩ : ∃ x, x = ps.getD cs.length 0 := ⟨_, rfl⟩
    rw [show ps[cs.length] = x by rw [hx, List.getD_eq_getElem?_getD, List.getElem?_eq_getElem hlt]; rfl] at p0
    obtain ⟨L, hL⟩ : ∃ L, L = node L0 cs := ⟨_, rfl⟩
    have SL := Lib.hid (show HSix L by rw [hL]; exact GG.out.sixAll Z6.out)
    rw [← hL] at A6
    have HX := Lib.hid hx
    have HL := Lib.hid hL
    have HK := Lib.hid hk
    have KW := Lib.hid (CW.out x wr (O.out.below BW.out))
    rw [WK.out] at KW
    have WH := Lib.hid (who_has ls x ls.length)
    have WA := Lib.hid (who_all ls x ls.length)
    have WR := Lib.hid (who_rises ls x ls.length)
    have wl := who_len ls x ls.length
    clear hx hL hlm hk
    generalize whoTo ls x ls.length = who at KW WH WA WR wl
    have WLn := Lib.hid wl
    go_wp2_with (go_at_call 38; refine KW.out.mono ?_; rintro e w4 ⟨vw, rfl, ow, b4⟩; obtain ⟨W4, cw, rfl⟩ := ow.slice; have OW := Lib.hid ow; have B4 := Lib.hid (BW.out.trans (b4.mono hbs)); have A4 := Lib.hid (A6.out.below b4); have S4 := Lib.hid (ST.out.below b4); have O4 := Lib.hid (OO.out.below b4); have hb4 := b4.size; clear ow b4)
    have hgm := S4.out.lt
    clear KW p0 OO A6 ST
    go_loopw [6, 37] (fun c6 iv wq => c6 = .slice Cx cs.length cc ∧ ∃ i : Nat, i ≤ who.length ∧ iv = .int .i64 (i : Int) ∧ Hid (∀ j, j < i → ∀ p : Nat, who.getD j 0 = (p : Int) → 0 < L.getD p 0 → T (take1 L p) = true) ∧ Hid (Below w4.heap.size w4 wq)) (fun _ iv _ => who.length - (intOf iv).toNat)
    case atStart => exact ⟨rfl, 0, by omega, rfl, Lib.hid (fun j hj => absurd hj (by omega)), Lib.hid (Below.refl _ _)⟩
    case round =>
      obtain ⟨rfl, i, hi, rfl, HN, BQ⟩ := hrel
      have hbq := BQ.out.size
      have A5 := Lib.hid (A4.out.below BQ.out)
      have S5 := Lib.hid (S4.out.below BQ.out)
      have O5 := Lib.hid (O4.out.below BQ.out)
      have B5 := Lib.hid (B4.out.trans (BQ.out.mono B4.out.size))
      by_cases hli : i < who.length
      rotate_left
      · obtain rfl : i = who.length := by omega
        have HA := Lib.hid (show ∀ q, q < ls.length → can ls (ps.getD cs.length 0) (node L0 cs) q = true → T (take1 (node L0 cs) q) = true from fun q hq hc => by
          rw [← HL.out, ← HX.out] at hc
          unfold can at hc
          rw [Bool.and_eq_true] at hc
          obtain ⟨j, hj, e⟩ := WA.out q hq hc.2
          rw [← HL.out]
          exact HN.out j hj q e (of_decide_eq_true hc.1))
        by_cases hd : cs.length = 0
        · have R := Lib.hid (show castR (firstCast ls ps) = ([], false) by
            have q := GG.out.none_ h6 hlt HA.out
            obtain rfl : cs = [] := List.eq_nil_of_length_eq_zero hd
            rw [FC.out, show sol ls ps ps.length L0 = none from q]
            rfl)
          have hdb : ((cs.length : Int) == 0) = true := by rw [hd]; rfl
          clear hd A4 S4 O4 B4 A5 S5 O5 HN HA
          go_wp2_with fail
          try rw [Exit.noGoto_ret]
          go_ret2
          exact ⟨_, by rw [R.out]; rfl, by rw [R.out]; exact ⟨rfl, .inl ⟨rfl, rfl⟩⟩, B5.out⟩
        obtain ⟨cs', c, hcs⟩ : ∃ cs' c, cs = cs' ++ [c] := ⟨cs.dropLast, cs.getLast (by intro e; rw [e] at hd; exact hd rfl), (List.dropLast_concat_getLast _).symm⟩
        have hcl : cs.length = cs'.length + 1 := by rw [hcs]; simp
        have hdb : ((cs.length : Int) == 0) = false := by rw [beq_eq_false_iff_ne]; omega
        have en : IntKind.i64.wrap ((cs.length : Int) - 1) = (cs'.length : Int) := by rw [IntWalk.i64_in _ (by omega)]; omega
        have GP := Lib.hid (show Going ls ps L0 cs' T by
          have g0 := GG.out
          have h0 := HA.out
          rw [hcs] at g0 h0 hlt
          have e : (cs' ++ [c]).length = cs'.length + 1 := by simp
          rw [e] at h0 hlt
          exact g0.pop h6 hlt h0)
        have hcm : c < ls.length := GG.out.low c (by rw [hcs]; simp)
        have NB := Lib.hid (show L.set c (L.getD c 0 + 1) = node L0 cs' by rw [HL.out, hcs, node_snoc]; exact take1_back (by rw [node_len]; omega))
        have hcr := SL.out.2 c
        obtain ⟨y0, y1⟩ := A5.out.spot (k := c) (by omega)
        have hrm := roomI O5.out
        obtain ⟨gq, _, f1, hgq, _, q0, _⟩ := O5.out.spot (k := cs'.length) (by rw [List.length_map]; omega)
        simp only [Value.slice.injEq] at f1
        obtain ⟨rfl, -, rfl⟩ := f1
        have e0 : (cs.map fun c : Nat => (c : Int))[cs'.length]'(by rw [List.length_map]; omega) = (c : Int) := by simp [hcs]
        rw [e0] at q0
        obtain ⟨F7, G7⟩ := A5.out.set c (L.getD c 0 + 1)
        rw [NB.out] at F7
        have A7 := Lib.hid F7
        have S7 := Lib.hid (S5.out.kept G7 (by simp))
        have O7 := Lib.hid (show OwnI (wr.setCell ⟨g, c, none⟩ (.int .i64 (L.getD c 0 + 1))) (g + 2) (.slice (some ⟨gq, 0, none⟩) cs'.length cc) (cs'.map fun c : Nat => (c : Int)) from by
          have q := part_low (k := cs'.length) (O5.out.kept G7 (.inr (fun e => by have e2 : gq = g := Option.some.inj e; omega))) (by rw [List.length_map]; omega)
          rw [hcs, List.map_append, List.take_left' (by simp)] at q
          exact q)
        have B7 := Lib.hid (B5.out.grown G7 B5.out.size (fun q hq => by have := Option.some.inj hq; omega))
        have HM2 := Lib.hid (show 2 * (729 - sixes T) + cs'.length < gk by have := HK.out; omega)
        generalize L.getD c 0 = t at *
        have ew : IntKind.i64.wrap (t + 1) = t + 1 := IntWalk.i64_in _ (by omega)
        have hc0 : (0 : Int) ≤ (c : Int) := by omega
        have hc6 : (c : Int) < 6 := by omega
        have hd0' : (0 : Int) ≤ (cs'.length : Int) := by omega
        have hd1' : (cs'.length : Int) < (cs.length : Int) := by omega
        have hd2' : (cs'.length : Int) ≤ (cc : Int) := by omega
        clear A4 S4 O4 B4 A5 S5 O5 B5 HN HA F7 G7 e0 GG
        go_wp2_with fail
        go_roundg (2 * (729 - sixes T) + cs'.length)
        case measure => exact HM2.out
        case rel => exact ⟨cs', T, Nat.le_refl _, O7, A7, S7, GP, B7⟩
      have hi0 : (0 : Int) ≤ (i : Int) := by omega
      have hi1 : (i : Int) < (who.length : Int) := by omega
      obtain ⟨p, hp, hwp, hkp⟩ := WH.out i hli
      obtain ⟨gw, _, f1, _, _, q0, _⟩ := (OW.out.below BQ.out).spot hli
      simp only [Value.slice.injEq] at f1
      obtain ⟨rfl, -, rfl⟩ := f1
      rw [show who[i] = (p : Int) by rw [← hwp, List.getD_eq_getElem?_getD, List.getElem?_eq_getElem hli]; rfl] at q0
      have HWP := Lib.hid hwp
      have HKP := Lib.hid hkp
      have hp0 : (0 : Int) ≤ (p : Int) := by omega
      have hp6 : (p : Int) < 6 := by omega
      have l6 := SL.out.1
      have hi6 := info6_len l6
      have hia := info6_arr l6
      have hr5 := A5.out.range
      obtain ⟨t, ht⟩ : ∃ t, t = L.getD p 0 := ⟨_, rfl⟩
      have htr := SL.out.2 p
      rw [← ht] at htr
      have HT := Lib.hid ht
      have ew : IntKind.i64.wrap (t - 1) = t - 1 := IntWalk.i64_in _ (by omega)
      clear hwp hkp ht
      have T6 := Lib.hid (fun h : 0 < t => SL.out.take1 (p := p) (by rw [← HT.out]; exact h))
      have m6 : (take1 L p).length = 6 := by rw [take1_len]; exact l6
      have mi6 := info6_len m6
      have mia := info6_arr m6
      obtain ⟨a0, a1, a2, a3, a4, a5, hM⟩ := six_list m6
      have HM := Lib.hid hM
      clear hM
      by_cases htz : 0 < t
      rotate_left
      · have HN2 := Lib.hid (show ∀ j, j < i + 1 → ∀ p : Nat, who.getD j 0 = (p : Int) → 0 < L.getD p 0 → T (take1 L p) = true from fun j hj p' e1 e2 => by
          rcases (by omega : j < i ∨ j = i) with q | rfl
          · exact HN.out j q p' e1 e2
          · rw [HWP.out] at e1
            obtain rfl : p = p' := by omega
            rw [← HT.out] at e2
            omega)
        clear T6 m6 mi6 mia HN
        go_wp2_with (first
          | (show wpList _ _ _ (Oper.mk _ (.load 50 _) _ _ _ _ :: _) _ _; refine wpList_load_mid rfl 50 _ rfl g 0 rfl (L.map intV) _ hr5 Try.underlying50 rfl hi6 ?_)
          | (show wpList _ _ _ (Oper.mk _ (.store 50 _ _) _ _ _ _ :: _) _ _; refine wpList_store_new rfl 50 50 _ _ rfl _ ((L.map intV).toArray) rfl rfl hia (by simp [l6]) (one6 _) ?_
             have F5 := arr6_new wr wr.heap.size (L.map intV).toArray L (by simp) l6 (Nat.le_refl _)
             have A6 := A5.out.alloc (.cells (L.map intV).toArray 50)
             have S6 := S5.out.kept (World.grownBy_alloc wr (.cells (L.map intV).toArray 50) none) (by simp)
             have O6 := O5.out.alloc (.cells (L.map intV).toArray 50)
             have B6 := B5.out.alloc B5.out.size (.cells (L.map intV).toArray 50)
             have Q6 := BQ.out.alloc BQ.out.size (.cells (L.map intV).toArray 50)
             generalize hW : wr.alloc (.cells (L.map intV).toArray 50) = w5 at F5 A6 S6 O6 B6 Q6 ⊢
             generalize hgf : wr.heap.size = gf at F5 hbq ⊢
             clear hW hgf
             have ne1 : g ≠ gf := by omega
             have ne2 : gf ≠ g := by omega
             obtain ⟨y0, y1⟩ := F5.spot (k := p) (by omega)
             obtain ⟨z0, -⟩ := A6.spot (k := p) (by omega)
             rw [← HT.out] at y0 z0
             obtain ⟨F7, G7⟩ := F5.set p (t - 1)
             rw [show L.set p (t - 1) = take1 L p by unfold take1; rw [← HT.out]] at F7
             have A7 := Lib.hid (A6.kept G7 (by simp; omega))
             have S7 := Lib.hid (S6.kept G7 (by simp; omega))
             have O7 := Lib.hid (O6.kept G7 (by rcases hx : (Value.slice Cx cs.length cc).ownBlock with _ | q; exact .inl rfl; right; have := O4.out.lt q hx; simp; omega))
             have B7 := Lib.hid (B6.grown G7 B6.size (fun q hq => by have := Option.some.inj hq; omega))
             have Q7 := Lib.hid (Q6.grown G7 Q6.size (fun q hq => by have := Option.some.inj hq; omega))
             have z1 := (A7.out.spot (k := p) (by omega)).1
             rw [← HT.out] at z1
             have hr7 := F7.range
             rw [HM.out] at F7 hr7
             have k0 : (w5.setCell ⟨gf, p, none⟩ (.int .i64 (t - 1))).cell? ⟨gf, 0, none⟩ = some (.int .i64 a0) := (F7.spot (k := 0) (by omega)).1
             have k1 : (w5.setCell ⟨gf, p, none⟩ (.int .i64 (t - 1))).cell? ⟨gf, 1, none⟩ = some (.int .i64 a1) := (F7.spot (k := 1) (by omega)).1
             have k2 : (w5.setCell ⟨gf, p, none⟩ (.int .i64 (t - 1))).cell? ⟨gf, 2, none⟩ = some (.int .i64 a2) := (F7.spot (k := 2) (by omega)).1
             have k3 : (w5.setCell ⟨gf, p, none⟩ (.int .i64 (t - 1))).cell? ⟨gf, 3, none⟩ = some (.int .i64 a3) := (F7.spot (k := 3) (by omega)).1
             have k4 : (w5.setCell ⟨gf, p, none⟩ (.int .i64 (t - 1))).cell? ⟨gf, 4, none⟩ = some (.int .i64 a4) := (F7.spot (k := 4) (by omega)).1
             have k5 : (w5.setCell ⟨gf, p, none⟩ (.int .i64 (t - 1))).cell? ⟨gf, 5, none⟩ = some (.int .i64 a5) := (F7.spot (k := 5) (by omega)).1
             have F8 := Lib.hid F7
             clear F5 A6 S6 O6 B6 Q6 G7 F7))
        exact ⟨⟨rfl, i + 1, by omega, by go_num, HN2, Q7⟩, by simp [intOf]; omega⟩
      have M6 := T6.out htz
      cases hT : T (take1 L p) with
      | true =>
        have HN2 := Lib.hid (show ∀ j, j < i + 1 → ∀ p : Nat, who.getD j 0 = (p : Int) → 0 < L.getD p 0 → T (take1 L p) = true from fun j hj p' e1 e2 => by
          rcases (by omega : j < i ∨ j = i) with q | rfl
          · exact HN.out j q p' e1 e2
          · rw [HWP.out] at e1
            obtain rfl : p = p' := by omega
            exact hT)
        have M7 := Lib.hid M6
        have LK := Lib.hid (fun W (h : SetH W (g + 1) (sixes T) T) => (show (Instr.lookup 52 (.map (some (g + 1))) (.agg #[.int .i64 a0, .int .i64 a1, .int .i64 a2, .int .i64 a3, .int .i64 a4, .int .i64 a5]) false).run Try.prog W = .ok (.bool true) W from by have q := h.look M6; rw [hT, HM.out] at q; exact q))
        clear T6 HN hT M6
        go_wp2_with (first
          | (show wpList _ _ _ (Oper.mk _ (.load 50 _) _ _ _ _ :: _) _ _; refine wpList_load_mid rfl 50 _ rfl g 0 rfl (L.map intV) _ hr5 Try.underlying50 rfl hi6 ?_)
          | (show wpList _ _ _ (Oper.mk _ (.store 50 _ _) _ _ _ _ :: _) _ _; refine wpList_store_new rfl 50 50 _ _ rfl _ ((L.map intV).toArray) rfl rfl hia (by simp [l6]) (one6 _) ?_
             have F5 := arr6_new wr wr.heap.size (L.map intV).toArray L (by simp) l6 (Nat.le_refl _)
             have A6 := A5.out.alloc (.cells (L.map intV).toArray 50)
             have S6 := S5.out.kept (World.grownBy_alloc wr (.cells (L.map intV).toArray 50) none) (by simp)
             have O6 := O5.out.alloc (.cells (L.map intV).toArray 50)
             have B6 := B5.out.alloc B5.out.size (.cells (L.map intV).toArray 50)
             have Q6 := BQ.out.alloc BQ.out.size (.cells (L.map intV).toArray 50)
             generalize hW : wr.alloc (.cells (L.map intV).toArray 50) = w5 at F5 A6 S6 O6 B6 Q6 ⊢
             generalize hgf : wr.heap.size = gf at F5 hbq ⊢
             clear hW hgf
             have ne1 : g ≠ gf := by omega
             have ne2 : gf ≠ g := by omega
             obtain ⟨y0, y1⟩ := F5.spot (k := p) (by omega)
             obtain ⟨z0, -⟩ := A6.spot (k := p) (by omega)
             rw [← HT.out] at y0 z0
             obtain ⟨F7, G7⟩ := F5.set p (t - 1)
             rw [show L.set p (t - 1) = take1 L p by unfold take1; rw [← HT.out]] at F7
             have A7 := Lib.hid (A6.kept G7 (by simp; omega))
             have S7 := Lib.hid (S6.kept G7 (by simp; omega))
             have O7 := Lib.hid (O6.kept G7 (by rcases hx : (Value.slice Cx cs.length cc).ownBlock with _ | q; exact .inl rfl; right; have := O4.out.lt q hx; simp; omega))
             have B7 := Lib.hid (B6.grown G7 B6.size (fun q hq => by have := Option.some.inj hq; omega))
             have Q7 := Lib.hid (Q6.grown G7 Q6.size (fun q hq => by have := Option.some.inj hq; omega))
             have z1 := (A7.out.spot (k := p) (by omega)).1
             rw [← HT.out] at z1
             have hr7 := F7.range
             rw [HM.out] at F7 hr7
             have k0 : (w5.setCell ⟨gf, p, none⟩ (.int .i64 (t - 1))).cell? ⟨gf, 0, none⟩ = some (.int .i64 a0) := (F7.spot (k := 0) (by omega)).1
             have k1 : (w5.setCell ⟨gf, p, none⟩ (.int .i64 (t - 1))).cell? ⟨gf, 1, none⟩ = some (.int .i64 a1) := (F7.spot (k := 1) (by omega)).1
             have k2 : (w5.setCell ⟨gf, p, none⟩ (.int .i64 (t - 1))).cell? ⟨gf, 2, none⟩ = some (.int .i64 a2) := (F7.spot (k := 2) (by omega)).1
             have k3 : (w5.setCell ⟨gf, p, none⟩ (.int .i64 (t - 1))).cell? ⟨gf, 3, none⟩ = some (.int .i64 a3) := (F7.spot (k := 3) (by omega)).1
             have k4 : (w5.setCell ⟨gf, p, none⟩ (.int .i64 (t - 1))).cell? ⟨gf, 4, none⟩ = some (.int .i64 a4) := (F7.spot (k := 4) (by omega)).1
             have k5 : (w5.setCell ⟨gf, p, none⟩ (.int .i64 (t - 1))).cell? ⟨gf, 5, none⟩ = some (.int .i64 a5) := (F7.spot (k := 5) (by omega)).1
             have F8 := Lib.hid F7
             have lk := LK.out _ S7.out
             clear F5 A6 S6 O6 B6 Q6 G7 F7))
        exact ⟨⟨rfl, i + 1, by omega, by go_num, HN2, Q7⟩, by simp [intOf]; omega⟩
      | false =>
        have M7 := Lib.hid (HM.out ▸ M6)
        have LK := Lib.hid (fun W (h : SetH W (g + 1) (sixes T) T) => (show (Instr.lookup 52 (.map (some (g + 1))) (.agg #[.int .i64 a0, .int .i64 a1, .int .i64 a2, .int .i64 a3, .int .i64 a4, .int .i64 a5]) false).run Try.prog W = .ok (.bool false) W from by have q := h.look M6; rw [hT, HM.out] at q; exact q))
        have G2 := Lib.hid (GG.out.add (k := p) (U := markH T [a0, a1, a2, a3, a4, a5]) hlt hp (by
            unfold can
            rw [← HL.out, ← HX.out, HKP.out, ← HT.out, decide_eq_true htz]
            rfl) (fun q hq hc => by
            rw [← HL.out, ← HX.out] at hc
            unfold can at hc
            rw [Bool.and_eq_true] at hc
            obtain ⟨j, hj, e⟩ := WA.out q (by omega) hc.2
            have hji : j < i := by
              rcases (by omega : j < i ∨ j = i ∨ i < j) with z | z | z
              · exact z
              · subst z; rw [HWP.out] at e; omega
              · have := WR.out i j z hj; rw [HWP.out, e] at this; omega
            rw [← HL.out]
            exact HN.out j hji q e (of_decide_eq_true hc.1)) (fun M => by rw [markH_iff, ← HL.out, HM.out]))
        have SX := Lib.hid (show sixes T < sixes (markH T [a0, a1, a2, a3, a4, a5]) from sixes_more (L := [a0, a1, a2, a3, a4, a5]) M7.out (by rw [← HM.out]; exact hT) (fun M => markH_iff T _ M))
        have SE := Lib.hid (sixes_le (markH T [a0, a1, a2, a3, a4, a5]))
        have sl := sixes_le T
        have NN := Lib.hid (show node L0 (cs ++ [p]) = [a0, a1, a2, a3, a4, a5] by rw [node_snoc, ← HL.out, HM.out])
        clear T6 HN hT M6
        go_wp2_with (first
          | (show wpList _ _ _ (Oper.mk _ (.load 50 _) _ _ _ _ :: _) _ _; refine wpList_load_mid rfl 50 _ rfl g 0 rfl (L.map intV) _ hr5 Try.underlying50 rfl hi6 ?_)
          | (show wpList _ _ _ (Oper.mk _ (.store 50 _ _) _ _ _ _ :: _) _ _; refine wpList_store_new rfl 50 50 _ _ rfl _ ((L.map intV).toArray) rfl rfl hia (by simp [l6]) (one6 _) ?_
             have F5 := arr6_new wr wr.heap.size (L.map intV).toArray L (by simp) l6 (Nat.le_refl _)
             have A6 := A5.out.alloc (.cells (L.map intV).toArray 50)
             have S6 := S5.out.kept (World.grownBy_alloc wr (.cells (L.map intV).toArray 50) none) (by simp)
             have O6 := O5.out.alloc (.cells (L.map intV).toArray 50)
             have B6 := B5.out.alloc B5.out.size (.cells (L.map intV).toArray 50)
             have Q6 := BQ.out.alloc BQ.out.size (.cells (L.map intV).toArray 50)
             generalize hW : wr.alloc (.cells (L.map intV).toArray 50) = w5 at F5 A6 S6 O6 B6 Q6 ⊢
             generalize hgf : wr.heap.size = gf at F5 hbq ⊢
             clear hW hgf
             have ne1 : g ≠ gf := by omega
             have ne2 : gf ≠ g := by omega
             obtain ⟨y0, y1⟩ := F5.spot (k := p) (by omega)
             obtain ⟨z0, -⟩ := A6.spot (k := p) (by omega)
             rw [← HT.out] at y0 z0
             obtain ⟨F7, G7⟩ := F5.set p (t - 1)
             rw [show L.set p (t - 1) = take1 L p by unfold take1; rw [← HT.out]] at F7
             have A7 := Lib.hid (A6.kept G7 (by simp; omega))
             have S7 := Lib.hid (S6.kept G7 (by simp; omega))
             have O7 := Lib.hid (O6.kept G7 (by rcases hx : (Value.slice Cx cs.length cc).ownBlock with _ | q; exact .inl rfl; right; have := O4.out.lt q hx; simp; omega))
             have B7 := Lib.hid (B6.grown G7 B6.size (fun q hq => by have := Option.some.inj hq; omega))
             have Q7 := Lib.hid (Q6.grown G7 Q6.size (fun q hq => by have := Option.some.inj hq; omega))
             have z1 := (A7.out.spot (k := p) (by omega)).1
             rw [← HT.out] at z1
             have hr7 := F7.range
             rw [HM.out] at F7 hr7
             have k0 : (w5.setCell ⟨gf, p, none⟩ (.int .i64 (t - 1))).cell? ⟨gf, 0, none⟩ = some (.int .i64 a0) := (F7.spot (k := 0) (by omega)).1
             have k1 : (w5.setCell ⟨gf, p, none⟩ (.int .i64 (t - 1))).cell? ⟨gf, 1, none⟩ = some (.int .i64 a1) := (F7.spot (k := 1) (by omega)).1
             have k2 : (w5.setCell ⟨gf, p, none⟩ (.int .i64 (t - 1))).cell? ⟨gf, 2, none⟩ = some (.int .i64 a2) := (F7.spot (k := 2) (by omega)).1
             have k3 : (w5.setCell ⟨gf, p, none⟩ (.int .i64 (t - 1))).cell? ⟨gf, 3, none⟩ = some (.int .i64 a3) := (F7.spot (k := 3) (by omega)).1
             have k4 : (w5.setCell ⟨gf, p, none⟩ (.int .i64 (t - 1))).cell? ⟨gf, 4, none⟩ = some (.int .i64 a4) := (F7.spot (k := 4) (by omega)).1
             have k5 : (w5.setCell ⟨gf, p, none⟩ (.int .i64 (t - 1))).cell? ⟨gf, 5, none⟩ = some (.int .i64 a5) := (F7.spot (k := 5) (by omega)).1
             have F8 := Lib.hid F7
             have lk := LK.out _ S7.out
             clear F5 A6 S6 O6 B6 Q6 G7 F7)
          | (at_mapUpdate
             refine wpList_markH rfl _ _ rfl (g + 1) (sixes T) T [a0, a1, a2, a3, a4, a5] rfl rfl S7.out M7.out (by omega) ?_
             intro w8 s8 g8
             have A8 := A7.out.kept g8 (by simp)
             have F9 := F8.out.kept g8 (by simp; omega)
             have O8 := O7.out.kept g8 (by rcases hx : (Value.slice Cx cs.length cc).ownBlock with _ | q; exact .inl rfl; right; have := O4.out.lt q hx; simp; omega)
             have B8 := B7.out.grown g8 B7.out.size (fun q hq => by have := Option.some.inj hq; omega)
             clear k0 k1 k2 k3 k4 k5 lk z1 hr7 y0 y1 z0
             have k0 : w8.cell? ⟨gf, 0, none⟩ = some (.int .i64 a0) := (F9.spot (k := 0) (by omega)).1
             have k1 : w8.cell? ⟨gf, 1, none⟩ = some (.int .i64 a1) := (F9.spot (k := 1) (by omega)).1
             have k2 : w8.cell? ⟨gf, 2, none⟩ = some (.int .i64 a2) := (F9.spot (k := 2) (by omega)).1
             have k3 : w8.cell? ⟨gf, 3, none⟩ = some (.int .i64 a3) := (F9.spot (k := 3) (by omega)).1
             have k4 : w8.cell? ⟨gf, 4, none⟩ = some (.int .i64 a4) := (F9.spot (k := 4) (by omega)).1
             have k5 : w8.cell? ⟨gf, 5, none⟩ = some (.int .i64 a5) := (F9.spot (k := 5) (by omega)).1)
          | (show wpList _ _ _ (Oper.mk _ (.store 50 _ _) _ _ _ _ :: _) _ _; refine wpList_store_mid rfl 50 _ _ rfl g 0 (([a0, a1, a2, a3, a4, a5] : List Int).map intV).toArray rfl rfl A8.there (info6_arr rfl) (one6 _) ?_
             show wpList _ _ _ _ _ (w8.setCells g 0 (([a0, a1, a2, a3, a4, a5] : List Int).map intV))
             have P9 := A8.sets (M := [a0, a1, a2, a3, a4, a5]) rfl
             have O9 := O8.kept P9.2 (by rcases hx : (Value.slice Cx cs.length cc).ownBlock with _ | q; exact .inl rfl; right; have := O4.out.lt q hx; simp; omega)
             have S9 := s8.kept P9.2 (by simp)
             have B9 := B8.grown P9.2 B8.size (fun q hq => by have := Option.some.inj hq; omega)
             have A9 := P9.1
             clear P9 k0 k1 k2 k3 k4 k5 A8 F9 O8 B8 A7 F8 S7 O7 B7 Q7 s8
             generalize w8.setCells g 0 (([a0, a1, a2, a3, a4, a5] : List Int).map intV) = w9 at A9 O9 S9 B9 ⊢
             have hs9 := S9.lt
             have hb9 := B9.size
             have ON := Lib.hid (oneI w9 w9.heap.size (p : Int) (Nat.le_refl _))
             have O10 := Lib.hid (O9.alloc (.cells #[.int .i64 (p : Int)] 3))
             have A10 := Lib.hid (A9.alloc (.cells #[.int .i64 (p : Int)] 3))
             have S10 := Lib.hid (S9.kept (World.grownBy_alloc w9 (.cells #[.int .i64 (p : Int)] 3) none) (by simp))
             have B10 := Lib.hid (B9.alloc hb9 (.cells #[.int .i64 (p : Int)] 3))
             clear A9 O9 S9 B9)
          | (at_builtin; refine wpList_rowsI rfl (.tmp 60) (.tmp 62) rfl (g + 2) w9.heap.size _ _ (cs.map fun c : Nat => (c : Int)) [(p : Int)] rfl rfl O10.out ON.out ?_ ?_ ?_; (simp <;> omega); (simp <;> omega); intro v11 w11 o11 g11 hat11))
        have hne : ∀ r, r < g + 2 → some r ≠ (Value.slice Cx cs.length cc).ownBlock := fun r hr e => by have := (O4.out.lt r e.symm).1; omega
        have A11 := Lib.hid (A10.out.kept g11 (hne g (by omega)))
        have S11 := Lib.hid (S10.out.kept g11 (hne (g + 1) (by omega)))
        have B11 := Lib.hid (B10.out.grown g11 (by have := B10.out.size; exact this) (fun q hq => by have := (O4.out.lt q hq).1; omega))
        have O11 := Lib.hid (show OwnI w11 (g + 2) v11 ((cs ++ [p]).map fun c : Nat => (c : Int)) by rw [List.map_append]; exact o11)
        have CL := Lib.hid (show (cs ++ [p]).length = cs.length + 1 by simp)
        have hsx := SX.out
        have hse := SE.out
        have hkk := HK.out
        go_roundg (2 * (729 - sixes (markH T [a0, a1, a2, a3, a4, a5])) + (cs.length + 1))
        case measure => omega
        case rel => exact ⟨cs ++ [p], markH T [a0, a1, a2, a3, a4, a5], by rw [CL.out]; omega, O11, by rw [NN.out]; exact A11, Lib.hid (S11.out.mono (by omega)), G2, B11⟩
end Go.Proofs.Ytjpalndcfaeihaa
