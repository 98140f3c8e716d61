/- The contracts of spec.l13Search and FirstCasting. Condition: the players and the numbers lie in rows of their own. -/
import Derived.Test.YtanlfkkmnnjpeaaPk3
import Derived.Test.YtanlfkkmnnjpeaaIntB
import Derived.Test.YtanlfkkmnnjpeaaPk5
import Derived.Deep.RegionHeld3
namespace Go.Proofs.Ytanlfkkmnnjpeaa
set_option linter.unusedVariables false
set_option linter.unusedSimpArgs false
open Go.RowKit

/-- What l13Search leaves: its answer; the load as it was. -/
def SrcPost (w : World) (base g n c : Nat) (load : List Int) (o : Option (List Int)) (e : Ending) (w' : World) : Prop :=
  ∃ v, e = .returned (.tuple #[v, .bool (castR o).2]) ∧ OwnI w' w.heap.size v (castR o).1 ∧ OwnI w' base (.slice (some ⟨g, 0, none⟩) n c) load ∧ w.grownBy w' (some g)

set_option maxRecDepth 100000 in
set_option maxHeartbeats 6400000 in
theorem specSrc (w0 : World) (v : Value) (ls : List RPlayer) (b : Nat) (hO : OwnPlayer w0 b v ls) (hok : playersOk ls = true) (u : Value) (ps : List Int) (b2 : Nat) (hP : OwnI w0 b2 u ps) (hp7 : ps.length ≤ 7) (base g c : Nat) (hg : w0.heap.size ≤ g) (hbg : base ≤ g) :
    ∀ (r : Nat) (cast load : List Int) (x : Value) (b3 : Nat) (w : World), Below w0.heap.size w0 w → OwnI w b3 x cast → (x.ownBlock = none ∨ x.ownBlock ≠ some g) → OwnI w base (.slice (some ⟨g, 0, none⟩) ls.length c) load → load.length = ls.length → cast.length + r = ps.length → (∀ p, 0 ≤ load.getD p 0 ∧ load.getD p 0 ≤ 2) →
      Calls Try.prog 47 #[v, u, x, .slice (some ⟨g, 0, none⟩) ls.length c] w (SrcPost w base g ls.length c load (srch ls ps r cast load)) := by
  obtain ⟨A, cv, rfl⟩ := hO.slice
  obtain ⟨U, cu, rfl⟩ := hP.slice
  have HO := Lib.hid hO
  have HP := Lib.hid hP
  have HG := Lib.hid hg
  have hn := (playersOk_has hok).1
  have FN := Lib.hid (fun k (hk : k < ls.length) => player_fine ((playersOk_has hok).2 k hk))
  clear hO hP hok hg
  intro r
  induction r with
  | zero =>
    intro cast load x b3 w hb hc hx hl hll hr hm
    obtain ⟨X, cx, rfl⟩ := hc.slice
    have hcl : cast.length = ps.length := by omega
    have E0 := Lib.hid (ownI_empty w w.heap.size w.heap.size #[] rfl (Nat.le_refl _) rfl)
    have OC := Lib.hid (hc.alloc (.cells #[] 3))
    have OL := Lib.hid hl
    have heq : ((cast.length : Int) == (ps.length : Int)) = true := by rw [hcl]; simp
    have R := Lib.hid (show castR (srch ls ps 0 cast load) = (cast, true) from rfl)
    clear hc hx hl hcl
    go_enter Try.func47, Try.ntmps47
    go_wp2_with (at_builtin; refine wpList_rowsI rfl (.tmp 20) (.tmp 21) rfl w.heap.size b3 (.slice (some ⟨w.heap.size, 0, none⟩) 0 0) (.slice X cast.length cx) [] cast rfl rfl E0.out OC.out ?_ ?_ ?_; (simp only [List.length_nil]; omega); (simp); intro v1 w1 o1 g1 hat1)
    have B1 := Lib.hid (madeR ((Below.refl w.heap.size w).alloc (Nat.le_refl _) (.cells #[] 3)) (by simp) E0.out g1)
    go_ret2
    refine ⟨_, by rw [R.out]; rfl, by rw [R.out]; exact o1, OL.out.below B1.out, grown_of_below B1.out _⟩
  | succ r ih =>
    intro cast load x b3 w hb hc hx hl hll hr hm
    obtain ⟨X, cx, rfl⟩ := hc.slice
    have hcl : cast.length < ps.length := by omega
    have heq : ((cast.length : Int) == (ps.length : Int)) = false := by rw [beq_eq_false_iff_ne]; omega
    have hk0 : (0 : Int) ≤ (cast.length : Int) := by omega
    have hk1 : (cast.length : Int) < (ps.length : Int) := by omega
    have HB := Lib.hid hb
    have HC := Lib.hid hc
    have HX := Lib.hid hx
    have HL := Lib.hid hl
    have HLL := Lib.hid hll
    have HM := Lib.hid hm
    obtain ⟨f, hf⟩ : ∃ f : Nat → Option (List Int), f = fun p => if freeFor ls load (ps.getD cast.length 0) p = true then srch ls ps r (cast ++ [(p : Int)]) (load.set p (load.getD p 0 + 1)) else none := ⟨_, rfl⟩
    have RS := Lib.hid (show srch ls ps (r + 1) cast load = firstOf f ls.length by rw [hf]; rfl)
    have FF := Lib.hid (show ∀ p, f p = if freeFor ls load (ps.getD cast.length 0) p = true then srch ls ps r (cast ++ [(p : Int)]) (load.set p (load.getD p 0 + 1)) else none from fun p => by rw [hf])
    have IH := Lib.hid ih
    clear hb hc hx hl hll hm hf ih
    go_enter Try.func47, Try.ntmps47
    go_wp2_with fail
    go_loopw [11] (fun pv wr => ∃ p : Nat, p ≤ ls.length ∧ pv = .int .i64 (p : Int) ∧ Hid (∀ q, q < p → f q = none) ∧ Hid (OwnI wr base (.slice (some ⟨g, 0, none⟩) ls.length c) load) ∧ Hid (w.grownBy wr (some g))) (fun pv _ => ls.length - (intOf pv).toNat)
    case atStart => exact ⟨0, by omega, rfl, Lib.hid (fun q hq => absurd hq (by omega)), HL, Lib.hid (World.grownBy.refl _ _)⟩
    case round =>
      obtain ⟨p, hp, rfl, NO, OL, GW⟩ := hrel
      have BW := Lib.hid (HB.out.grown GW.out HB.out.size (fun q hq => by have := Option.some.inj hq; have := HG.out; omega))
      by_cases hlt : p < ls.length
      rotate_left
      · obtain rfl : p = ls.length := by omega
        have R := Lib.hid (show castR (srch ls ps (r + 1) cast load) = ([], false) by rw [RS.out, first_none _ NO.out]; rfl)
        have hgs := GW.out.size
        have E0 := Lib.hid (ownI_empty wr w.heap.size wr.heap.size #[] rfl hgs rfl)
        have OL2 := Lib.hid (OL.out.alloc (.cells #[] 3))
        have GW2 := Lib.hid (grown_then GW.out (grown_of_below ((Below.refl wr.heap.size wr).alloc (Nat.le_refl _) (.cells #[] 3)) (some g)))
        go_wp2
        go_ret2
        exact ⟨_, by rw [R.out]; rfl, by rw [R.out]; exact E0.out, OL2.out, GW2.out⟩
      have hp0 : (0 : Int) ≤ (p : Int) := by omega
      have hp1 : (p : Int) < (ls.length : Int) := by omega
      have gA : ∀ (zs : List Int) t (ht : t < zs.length), zs[t] = zs.getD t 0 := fun zs t ht => by rw [List.getD_eq_getElem?_getD, List.getElem?_eq_getElem ht]; rfl
      obtain ⟨_, _, f1, _, gl0, z0, zf⟩ := OL.out.spot (k := p) (by rw [HLL.out]; exact hlt)
      simp only [Value.slice.injEq, Option.some.injEq, Addr.mk.injEq] at f1
      obtain ⟨⟨rfl, _⟩, -⟩ := f1
      rw [gA] at z0
      obtain ⟨gp, _, f1, _, _, p0, _⟩ := (HP.out.below BW.out).spot (k := cast.length) hcl
      simp only [Value.slice.injEq] at f1
      obtain ⟨rfl, -, rfl⟩ := f1
      rw [gA] at p0
      obtain ⟨gv, _, A1, c1, f1, -, ⟨x0, x1⟩, o1, -⟩ := (HO.out.below BW.out).spot hlt
      simp only [Value.slice.injEq] at f1
      obtain ⟨rfl, -, rfl⟩ := f1
      have hm := HM.out p
      have fn := FN.out p hlt
      have FP := Lib.hid (FF.out p)
      have FR := Lib.hid (show freeFor ls load (ps.getD cast.length 0) p = (decide (load.getD p 0 < ls[p].f1) && knowsB ls[p] (ps.getD cast.length 0)) by unfold freeFor; rw [getP hlt])
      have NX := Lib.hid (show f p = none → ∀ q, q < p + 1 → f q = none from fun e q hq => by
        rcases (by omega : q < p ∨ q = p) with s | rfl
        · exact NO.out q s
        · exact e)
      have KN := Lib.hid (fun W (hb : Below wr.heap.size wr W) => specKno ls[p] (.slice A1 ls[p].f0.length c1) (ps.getD cast.length 0) b W (o1.below hb) (by have := fn.1; omega))
      have hgs := GW.out.size
      obtain ⟨t1, ht1⟩ : ∃ t, ls[p].f1 = t := ⟨_, rfl⟩
      have ft := fn.2
      rw [ht1] at x1 KN FR ft
      generalize ls[p].f0.length = n1 at x0 KN
      generalize hzq : load.getD p 0 = lp at z0 hm FR FP
      have ZQ := Lib.hid hzq
      have XC := Lib.hid (show wr.cell? ⟨g, p, none⟩ = some (.int .i64 lp) ∧ wr.cell? ⟨gp, cast.length, none⟩ = some (.int .i64 (ps.getD cast.length 0)) ∧ wr.cell? ⟨gv, p * 2, none⟩ = some (.slice A1 n1 c1) ∧ wr.cell? ⟨gv, p * 2 + 1, none⟩ = some (.int .i64 t1) from ⟨z0, p0, x0, x1⟩)
      clear o1 gA fn ht1 hzq
      by_cases hc : lp < t1
      rotate_left
      · have N2 := Lib.hid (NX.out (by rw [FP.out, FR.out, decide_eq_false hc]; rfl))
        have d1 : decide (t1 ≤ lp) = true := decide_eq_true (by omega)
        have G2 := Lib.hid (fun m => (grown_then GW.out (grown_of_below (below_drewN (Below.refl wr.heap.size wr) m) (some g))))
        have O2 := Lib.hid (fun m => (OL.out.below (below_drewN (Below.refl wr.heap.size wr) m)))
        clear NX KN FP FR
        go_wp2_with fail
        go_quiet (fail)
        go_wp2
        exact ⟨⟨p + 1, by omega, by go_num, N2, Lib.hid (O2.out _), Lib.hid (G2.out _)⟩, by simp [intOf]; omega⟩
      have d1 : decide (t1 ≤ lp) = false := decide_eq_false (by omega)
      cases hkb : knowsB ls[p] (ps.getD cast.length 0) with
      | false =>
        have N2 := Lib.hid (NX.out (by rw [FP.out, FR.out, hkb, Bool.and_false]; rfl))
        rw [hkb] at KN
        clear NX FP FR hkb
        generalize ps.getD cast.length 0 = z at p0 KN XC
        go_wp2_with fail
        go_region_held3 (fun W => W.cell? ⟨g, p, none⟩ = some (.int .i64 lp) ∧ W.cell? ⟨gp, cast.length, none⟩ = some (.int .i64 z) ∧ W.cell? ⟨gv, p * 2, none⟩ = some (.slice A1 n1 c1) ∧ W.cell? ⟨gv, p * 2 + 1, none⟩ = some (.int .i64 t1))
          (first | exact XC.out | exact X2.out)
          (first | (go_at_call 49; refine (KN.out _ (Below.refl _ _).drew).mono ?_; rintro e w2 ⟨rfl, b2⟩; have b3 := undrew b2; have X2 := Lib.hid (show _ ∧ _ ∧ _ ∧ _ from ⟨cell_below XC.out.1 b3, cell_below XC.out.2.1 b3, cell_below XC.out.2.2.1 b3, cell_below XC.out.2.2.2 b3⟩)))
        have O2 := Lib.hid (OL.out.below (undrew b2))
        have G2 := Lib.hid (grown_then GW.out (grown_of_below (undrew b2) (some g)))
        clear b2 b3 XC X2
        go_wp2
        exact ⟨⟨p + 1, by omega, by go_num, N2, O2, G2⟩, by simp [intOf]; omega⟩
      | true =>
      rw [hkb, decide_eq_true hc, Bool.and_true] at FR
      rw [FR.out, if_pos rfl] at FP
      rw [hkb] at KN
      clear hkb FR
      generalize ps.getD cast.length 0 = z at p0 KN XC
      go_wp2_with fail
      go_region_held3 (fun W => W.cell? ⟨g, p, none⟩ = some (.int .i64 lp) ∧ W.cell? ⟨gp, cast.length, none⟩ = some (.int .i64 z) ∧ W.cell? ⟨gv, p * 2, none⟩ = some (.slice A1 n1 c1) ∧ W.cell? ⟨gv, p * 2 + 1, none⟩ = some (.int .i64 t1))
        (first | exact XC.out | exact X2.out)
        (first | (go_at_call 49; refine (KN.out _ (Below.refl _ _).drew).mono ?_; rintro e w2 ⟨rfl, b2⟩; have b3 := undrew b2; have X2 := Lib.hid (show _ ∧ _ ∧ _ ∧ _ from ⟨cell_below XC.out.1 b3, cell_below XC.out.2.1 b3, cell_below XC.out.2.2.1 b3, cell_below XC.out.2.2.2 b3⟩)))
      have O2 := OL.out.below b3
      have G2 := grown_then GW.out (grown_of_below b3 (some g))
      have z2 := X2.out.1
      obtain ⟨_, _, f1, _, gl2, _, zf2⟩ := O2.spot (k := p) (by rw [HLL.out]; exact hlt)
      simp only [Value.slice.injEq, Option.some.injEq, Addr.mk.injEq] at f1
      obtain ⟨⟨rfl, _⟩, -⟩ := f1
      obtain ⟨S1, G1⟩ := O2.set HLL.out.symm p (lp + 1)
      have G3 := Lib.hid (grown_then G2 G1)
      have L3 := Lib.hid S1
      have C3 := Lib.hid (HC.out.kept G3.out HX.out)
      have hs3 : w.heap.size ≤ w2.heap.size := Nat.le_trans hgs b3.size
      have E3 := Lib.hid (ownI_empty (w2.setCell ⟨g, p, none⟩ (.int .i64 (lp + 1))) w2.heap.size w2.heap.size #[] (by simp) (Nat.le_refl _) rfl)
      have BB3 := Lib.hid (show Below w0.heap.size w0 (w2.setCell ⟨g, p, none⟩ (.int .i64 (lp + 1))) from HB.out.grown G3.out HB.out.size (fun q hq => by have := Option.some.inj hq; have := HG.out; omega))
      have ew : IntKind.i64.wrap (lp + 1) = lp + 1 := IntWalk.i64_in _ (by omega)
      have hsz3 : (w2.setCell ⟨g, p, none⟩ (.int .i64 (lp + 1))).heap.size = w2.heap.size := by simp
      have HSZ := Lib.hid hsz3
      have HGL := Lib.hid gl2
      have HS3 := Lib.hid hs3
      clear b2 b3 XC X2 O2 G2 S1 G1 KN OL GW BW hsz3 gl2 hs3 p0 x0 x1 z0 zf gl0 hgs
      go_wp2_with (first
        | (have q_ := O4
           at_builtin
           refine wpList_rowsI rfl (.tmp 64) (.tmp 66) rfl w2.heap.size w4.heap.size v4 (.slice (some ⟨w4.heap.size, 0, none⟩) 1 1) cast [(p : Int)] rfl rfl (O4.out.alloc _) (oneI w4 w4.heap.size (p : Int) (Nat.le_refl _)) (by simp; omega) (by have := B4.out.size; have := HSZ.out; simp; omega) ?_
           intro v5 w5 o5 g5 hat5
           have O5 := Lib.hid o5
           have B5 := Lib.hid (madeR (B4.out.alloc (by have := B4.out.size; have := HSZ.out; omega) _) (by have := B4.out.size; have := HSZ.out; simp; omega) (O4.out.alloc _) g5)
           clear o5 g5 hat5)
        | (at_builtin
           refine wpList_rowsI rfl (.tmp 62) (.tmp 63) rfl w2.heap.size _ (.slice (some ⟨w2.heap.size, 0, none⟩) 0 0) (.slice X cast.length cx) [] cast rfl rfl E3.out (C3.out.alloc _) (by simp only [List.length_nil]; omega) (by have := HSZ.out; simp) ?_
           intro v4 w4 o4 g4 hat4
           have O4 := Lib.hid (show OwnI w4 w2.heap.size v4 cast from o4)
           have B4 := Lib.hid (madeR ((Below.refl w2.heap.size (w2.setCell ⟨g, p, none⟩ (.int .i64 (lp + 1)))).alloc (by have := HSZ.out; omega) (.cells #[] 3)) (by simp) E3.out g4)
           clear o4 g4 hat4))
      have hz5 := B5.out.size
      rw [HSZ.out] at hz5
      have L5 := Lib.hid (L3.out.below (show Below (w2.setCell ⟨g, p, none⟩ (.int .i64 (lp + 1))).heap.size (w2.setCell ⟨g, p, none⟩ (.int .i64 (lp + 1))) w5 by rw [HSZ.out]; exact B5.out))
      have G5 := Lib.hid (grown_then G3.out (grown_of_below (show Below (w2.setCell ⟨g, p, none⟩ (.int .i64 (lp + 1))).heap.size (w2.setCell ⟨g, p, none⟩ (.int .i64 (lp + 1))) w5 by rw [HSZ.out]; exact B5.out) (some g)))
      have sl : (load.set p (lp + 1)).length = ls.length := by rw [List.length_set]; exact HLL.out
      have sb : ∀ q, 0 ≤ (load.set p (lp + 1)).getD q 0 ∧ (load.set p (lp + 1)).getD q 0 ≤ 2 := fun q => by
        by_cases e : p = q
        · subst e
          rw [List.getD_eq_getElem?_getD, List.getElem?_set_self (by rw [HLL.out]; exact hlt), Option.getD_some]
          omega
        · rw [List.getD_eq_getElem?_getD, List.getElem?_set_ne e, ← List.getD_eq_getElem?_getD]
          exact HM.out q
      have back : (load.set p (lp + 1)).set p lp = load := by
        rw [List.set_set]
        have hl := HLL.out
        have e : load[p]'(by omega) = lp := by have := ZQ.out; rw [List.getD_eq_getElem?_getD, List.getElem?_eq_getElem (by omega)] at this; exact this
        rw [← e]
        exact List.set_getElem_self _
      have CALL := Lib.hid (IH.out (cast ++ [(p : Int)]) (load.set p (lp + 1)) v5 w2.heap.size w5 (HB.out.grown G5.out HB.out.size (fun q hq => by have := Option.some.inj hq; have := HG.out; omega)) O5.out (sep_of fun q e1 e2 => by have := (O5.out.lt q e1).1; have := Option.some.inj e2; have := HGL.out; omega) L5.out sl (by rw [List.length_append]; simp; omega) sb)
      have at5 : (load.set p (lp + 1)).getD p 0 = lp + 1 := by rw [List.getD_eq_getElem?_getD, List.getElem?_set_self (by rw [HLL.out]; exact hlt)]; rfl
      have A5 := Lib.hid at5
      have SL := Lib.hid sl
      have BK := Lib.hid back
      generalize load.set p (lp + 1) = lo5 at CALL FP A5 SL BK
      generalize srch ls ps r (cast ++ [(p : Int)]) lo5 = o at CALL FP
      have HZ5 := Lib.hid (Nat.le_trans HS3.out hz5)
      have HG5 := Lib.hid (Nat.lt_of_lt_of_le HGL.out hz5)
      clear IH q_ O4 B4 B5 O5 L5 C3 E3 L3 BB3 HSZ HGL HS3 G3 sl sb back at5 z2 zf2 hz5
      refine CALL.out.mono ?_
      rintro e w6 ⟨v6, rfl, o6, l6, g6⟩
      obtain ⟨_, _, f1, _, gl6, z6, zf6⟩ := l6.spot (k := p) (by rw [SL.out]; exact hlt)
      simp only [Value.slice.injEq, Option.some.injEq, Addr.mk.injEq] at f1
      obtain ⟨⟨rfl, _⟩, -⟩ := f1
      rw [show lo5[p]'(by rw [SL.out]; exact hlt) = lp + 1 from by have := A5.out; rw [List.getD_eq_getElem?_getD, List.getElem?_eq_getElem (by rw [SL.out]; exact hlt)] at this; exact this] at z6
      obtain ⟨S7, G7⟩ := l6.set SL.out.symm p lp
      rw [BK.out] at S7
      have L7 := Lib.hid S7
      have GW7 := Lib.hid (grown_then (grown_then G5.out g6) G7)
      have O7 := Lib.hid ((o6.kept G7 (sep_of fun q e1 e2 => by have := (o6.lt q e1).1; have := Option.some.inj e2; have := HG5.out; omega)).mono HZ5.out)
      have ew2 : IntKind.i64.wrap (lp + 1 - 1) = lp := by rw [IntWalk.i64_in _ (by omega)]; omega
      clear CALL o6 l6 g6 S7 G7 ew
      cases o with
      | none =>
        have N2 := Lib.hid (NX.out FP.out)
        simp only [castR]
        go_wp2
        exact ⟨⟨p + 1, by omega, by go_num, N2, L7, GW7⟩, by simp [intOf]; omega⟩
      | some y =>
        have R := Lib.hid (show castR (srch ls ps (r + 1) cast load) = (y, true) by rw [RS.out, first_some NO.out FP.out _ hlt]; rfl)
        simp only [castR]
        simp only [castR] at O7
        go_wp2
        go_ret2
        exact ⟨_, by rw [R.out]; rfl, by rw [R.out]; exact O7.out, L7.out, GW7.out⟩

set_option maxRecDepth 100000 in
set_option maxHeartbeats 1600000 in
theorem specFst (v : Value) (ls : List RPlayer) (b : Nat) (w : World) (h : OwnPlayer w b v ls) (hl : ls.length ≤ 2000000) (hr : ∀ k (hk : k < ls.length), ls[k].f0.length ≤ 2000000) (u : Value) (ps : List Int) (b2 : Nat) (h2 : OwnI w b2 u ps) (hp : ps.length ≤ 2000000) :
    Calls Try.prog 16 #[v, u] w (IntsB w (castR (firstCast ls ps))) := by
  obtain ⟨i0, hi0, hz0, hz1, hz2⟩ := info_parts info_int
  have CK := Lib.hid (specPOk v ls b w h hl hr)
  have CR := Lib.hid (fun W h => specRise u ps 6 b2 W h hp)
  obtain ⟨A, c, rfl⟩ := h.slice
  obtain ⟨D, d, rfl⟩ := h2.slice
  have O := Lib.hid h
  have P := Lib.hid h2
  clear h h2 hr
  cases hok : playersOk ls with
  | false =>
    have R := Lib.hid (show castR (firstCast ls ps) = ([], false) by unfold firstCast; rw [hok]; rfl)
    rw [hok] at CK
    clear hok
    go_enter Try.func16, Try.ntmps16
    go_wp2_with (go_at_call 45; refine CK.out.mono ?_; rintro e w1 ⟨rfl, b1⟩; have B1 := Lib.hid b1; have E1 := Lib.hid (ownI_empty w1 w.heap.size w1.heap.size #[] rfl b1.size rfl); clear b1)
    go_ret2
    exact ⟨_, by rw [R.out]; rfl, by rw [R.out]; exact E1.out, B1.out.alloc B1.out.size _⟩
  | true =>
  have hn := (playersOk_has hok).1
  rw [hok] at CK
  cases hris : rising ps 6 with
  | false =>
    have R := Lib.hid (show castR (firstCast ls ps) = ([], false) by unfold firstCast; rw [hok, hris]; rfl)
    rw [hris] at CR
    clear hris hok
    go_enter Try.func16, Try.ntmps16
    go_wp2_with fail
    refine CK.out.mono ?_
    rintro e w1 ⟨rfl, b1⟩
    go_wp2_with fail
    refine (CR.out _ (P.out.below b1)).mono ?_
    rintro e w2 ⟨rfl, b2⟩
    have B2 := Lib.hid (b1.trans (b2.mono b1.size))
    have E2 := Lib.hid (ownI_empty w2 w.heap.size w2.heap.size #[] rfl B2.out.size rfl)
    clear b1 b2
    go_wp2
    go_ret2
    exact ⟨_, by rw [R.out]; rfl, by rw [R.out]; exact E2.out, B2.out.alloc B2.out.size _⟩
  | true =>
  rw [hris] at CR
  have h7 := rising_seven hris
  have R := Lib.hid (show firstCast ls ps = srch ls ps ps.length [] (List.replicate ls.length 0) by unfold firstCast; rw [hok, hris]; rfl)
  have SRC := Lib.hid (fun w0 hO hP base g c2 hg hbg => specSrc w0 (.slice A ls.length c) ls b hO hok (.slice D ps.length d) ps b2 hP h7 base g c2 hg hbg)
  clear hris hok
  go_enter Try.func16, Try.ntmps16
  go_wp2_with fail
  refine CK.out.mono ?_
  rintro e w1 ⟨rfl, b1⟩
  go_wp2_with fail
  refine (CR.out _ (P.out.below b1)).mono ?_
  rintro e w2 ⟨rfl, b2⟩
  have B2 := Lib.hid (b1.trans (b2.mono b1.size))
  have O2 := Lib.hid (O.out.below B2.out)
  have P2 := Lib.hid (P.out.below B2.out)
  have E2 := Lib.hid (ownI_empty w2 w2.heap.size w2.heap.size #[] rfl (Nat.le_refl _) rfl)
  clear b1 b2 CK CR
  go_wp2_with (refine wpList_make_full _ rfl _ _ 33 rfl (w2.heap.size + 1) 3 i0 (.int .i64 0) 1 Try.underlying33 hi0 hz0 hz1 .i64 .i64 _ _ ls.length rfl rfl rfl rfl (by rw [hz2]; omega) (by simp only [maxLen]; omega) (by simp) ?_; intro w3 own3 grown3)
  have L3 := Lib.hid (show OwnI w3 (w2.heap.size + 1) (.slice (some ⟨w2.heap.size + 1, 0, none⟩) ls.length ls.length) (List.replicate ls.length 0) by have q := madeZero own3; simpa using q)
  have B3 := Lib.hid (below_of_grown grown3)
  have B23 := Lib.hid (show Below w2.heap.size w2 w3 from ((Below.refl w2.heap.size w2).alloc (Nat.le_refl _) (.cells #[] 3)).trans (B3.out.mono (by simp)))
  have E3 := Lib.hid (E2.out.below B3.out)
  clear own3 grown3 E2
  refine (SRC.out w2 O2.out P2.out (w2.heap.size + 1) (w2.heap.size + 1) ls.length (by omega) (Nat.le_refl _) ps.length [] (List.replicate ls.length 0) (.slice (some ⟨w2.heap.size, 0, none⟩) 0 0) w2.heap.size w3 B23.out E3.out (.inr (by intro e; have := Option.some.inj e; simp at this)) L3.out (by simp) (by simp) (fun q => by rw [List.getD_eq_getElem?_getD, List.getElem?_replicate]; split <;> simp)).mono ?_
  rintro e w4 ⟨v4, rfl, o4, -, g4⟩
  rw [← R.out] at o4 ⊢
  have hs := B2.out.size
  have hs2 := B23.out.size
  have O4 := Lib.hid (o4.mono (Nat.le_trans hs hs2))
  have B4 := Lib.hid (show Below w.heap.size w w4 from (B2.out.trans (B23.out.mono hs)).grown g4 (Nat.le_trans hs hs2) (fun q hq => by have := Option.some.inj hq; omega))
  clear o4 g4 B3 B23 E3 L3
  go_wp2
  go_ret2
  exact ⟨_, rfl, O4.out, B4.out⟩
end Go.Proofs.Ytanlfkkmnnjpeaa
