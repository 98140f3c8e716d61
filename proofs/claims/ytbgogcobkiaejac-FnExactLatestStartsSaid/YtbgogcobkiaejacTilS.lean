/- The contract of spec.LatestStarts. Condition: the cues lie in a row of their own. -/
import Derived.Test.YtbgogcobkiaejacPk4
import Derived.Test.YtbgogcobkiaejacTimP
namespace Go.Proofs.Ytbgogcobkiaejac
set_option linter.unusedVariables false
set_option linter.unusedSimpArgs false
open Go.RowKit

set_option maxRecDepth 100000 in
set_option maxHeartbeats 3200000 in
theorem specLat (v : Value) (ls : List RCue) (b : Nat) (w : World) (h : OwnCue w b v ls) (hl : bulkCue ls ≤ 1048576) :
    Calls Try.prog 28 #[v] w (IntsPost w (latestStarts ls)) := by
  have CP := Lib.hid (fun W h => specPla v ls b W h hl)
  have CO := Lib.hid (fun W h => specOrd v ls b W h hl)
  obtain ⟨A, c, rfl⟩ := h.slice
  have O := Lib.hid h
  clear h
  have E0 := Lib.hid (ownI_empty w w.heap.size w.heap.size #[] rfl (Nat.le_refl _) rfl)
  have B0 := Lib.hid ((Below.refl w.heap.size w).alloc (Nat.le_refl _) (.cells #[] 3))
  have OA := Lib.hid (O.out.alloc (.cells #[] 3))
  have hbl := bulkCue_len ls
  cases hok : cuesOk ls with
  | false =>
    have R := Lib.hid (show latestStarts ls = [] by unfold latestStarts; rw [hok]; rfl)
    rw [play_no hok] at CP
    clear hok
    go_enter Try.func28, Try.ntmps28
    go_wp2_with fail
    refine (CP.out _ OA.out).mono ?_
    rintro e w1 ⟨rfl, b1⟩
    have B1 := Lib.hid (B0.out.trans (b1.mono B0.out.size))
    have E1 := Lib.hid (E0.out.below b1)
    clear b1
    go_wp2
    go_ret
    exact ⟨_, rfl, by rw [R.out]; exact E1.out, B1.out⟩
  | true =>
    have hn := (cuesOk_has hok).1
    have R := Lib.hid (show latestStarts ls = lateTo ls ls.length by unfold latestStarts; rw [if_pos hok])
    have HOK := Lib.hid hok
    have OLH := Lib.hid (show (cueOrder ls).length = ls.length by unfold cueOrder; rw [if_pos hok, ord_len])
    have NI := Lib.hid (fun k => (show lateInit ls (k + 1) = lateInit ls k ++ [playTime ls - (ls.getD k RCue.zero).f0] from rfl))
    obtain ⟨hp1, hp2⟩ := play_pos hok
    have gA : ∀ (zs : List Int) t (ht : t < zs.length), zs[t] = zs.getD t 0 := fun zs t ht => by rw [List.getD_eq_getElem?_getD, List.getElem?_eq_getElem ht]; rfl
    have GA := Lib.hid gA
    have hpn : ¬ playTime ls < 0 := by omega
    clear hok gA
    generalize playTime ls = T at CP NI hp1 hp2 hpn
    go_enter Try.func28, Try.ntmps28
    go_wp2_with fail
    refine (CP.out _ OA.out).mono ?_
    rintro e w1 ⟨rfl, b1⟩
    have B1 := Lib.hid (B0.out.trans (b1.mono B0.out.size))
    have E1 := Lib.hid (show OwnI w1 w.heap.size _ (lateInit ls 0) from E0.out.below b1)
    have AF := Lib.hid (show ∀ W, Below w.heap.size w W → OwnCue W b (.slice A ls.length c) ls from fun W hb => O.out.below hb)
    clear b1 CP E0 B0 OA
    go_wp2_with fail
    go_loopw [3, 5] (fun ov kv wr => ∃ (k : Nat) (A2 : Option Addr) (c2 : Nat), ov = .slice A2 k c2 ∧ k ≤ ls.length ∧ kv = .int .i64 (k : Int) ∧ Hid (OwnI wr w.heap.size (.slice A2 k c2) (lateInit ls k)) ∧ Hid (Below w.heap.size w wr)) (fun _ kv _ => ls.length - (intOf kv).toNat)
    case atStart => exact ⟨0, _, _, rfl, by omega, rfl, E1, B1⟩
    case round =>
      clear E1 B1
      obtain ⟨k, A2, c2, rfl, hk, rfl, OO, BW⟩ := hrel
      by_cases hlt : k < ls.length
      · have hk0 : (0 : Int) ≤ (k : Int) := by omega
        have hk1 : (k : Int) < (ls.length : Int) := by omega
        obtain ⟨g, _, _, _, _, _, f1, -, ⟨t0, -, -⟩, -⟩ := (AF.out _ BW.out).spot hlt
        simp only [Value.slice.injEq] at f1
        obtain ⟨rfl, -, -⟩ := f1
        have ft := (cue_fine HOK.out hlt).1
        rw [show ls[k] = ls.getD k RCue.zero from by rw [List.getD_eq_getElem?_getD, List.getElem?_eq_getElem hlt]; rfl] at t0
        have NX := Lib.hid (NI.out k)
        generalize (ls.getD k RCue.zero).f0 = t at t0 ft NX
        have ew : IntKind.i64.wrap (T - t) = T - t := IntWalk.i64_in _ (by omega)
        have hbs := BW.out.size
        have NW := Lib.hid (oneI wr wr.heap.size (T - t) (Nat.le_refl _))
        have hil := init_len ls k
        have hlc : (lateInit ls k ++ [T - t]).length = k + 1 := by rw [List.length_append, hil]; rfl
        have HLC := Lib.hid hlc
        have HIL := Lib.hid hil
        clear hlc hil
        go_wp2_with (
          at_builtin
          refine wpList_rowsI rfl (.tmp 23) (.tmp 31) rfl w.heap.size wr.heap.size _ _ (lateInit ls k) [T - t] rfl rfl (OO.out.alloc _) NW.out ?_ ?_ ?_
          (rw [HIL.out]; simp; omega)
          (simp; omega)
          intro v3 w3 o3 g3 hat3
          obtain ⟨A3, c3, e3⟩ := o3.slice
          rw [HLC.out] at e3
          subst e3
          have B3 := Lib.hid (madeR (BW.out.alloc hbs _) (by simp; omega) (OO.out.alloc _) g3)
          have O3 := Lib.hid (show OwnI w3 w.heap.size (.slice A3 (k + 1) c3) (lateInit ls (k + 1)) by rw [NX.out]; exact o3)
          clear o3 g3 hat3)
        exact ⟨⟨k + 1, A3, c3, rfl, by omega, by go_num, O3, B3⟩, by simp [intOf]; omega⟩
      · obtain rfl : k = ls.length := by omega
        have Q0 := Lib.hid (show OwnI wr w.heap.size (.slice A2 ls.length c2) (lateTo ls 0) from OO.out)
        have PQ := OO.out
        obtain ⟨go, _, f1, hgo, hgl, -, -⟩ := PQ.spot (k := 0) (by rw [init_len]; omega)
        rw [init_len] at f1
        simp only [Value.slice.injEq] at f1
        obtain ⟨rfl, -, rfl⟩ := f1
        clear PQ OO hlt hk
        have en : IntKind.i64.wrap ((ls.length : Int) - 1) = (ls.length : Int) - 1 := IntWalk.i64_in _ (by omega)
        go_wp2_with fail
        refine (CO.out _ (AF.out _ BW.out)).mono ?_
        rintro e w3 ⟨vo, rfl, o3, b3⟩
        obtain ⟨Z, co, e3⟩ := o3.slice
        rw [OLH.out] at e3
        subst e3
        have Z3 := Lib.hid o3
        have P3 := Lib.hid (Q0.out.below b3)
        have B3 := Lib.hid (BW.out.trans (b3.mono BW.out.size))
        have SEP := Lib.hid (fun q hq => (o3.lt q hq).1)
        clear o3 b3 Q0 BW CO
        obtain ⟨bz, hbz⟩ : ∃ bz, bz = wr.heap.size := ⟨_, rfl⟩
        rw [← hbz] at Z3 SEP hgl
        clear hbz
        go_wp2_with fail
        go_loopw [7] (fun iv wx => ∃ (m : Nat) (x : Int), m ≤ ls.length ∧ x + 1 = (m : Int) ∧ iv = .int .i64 x ∧ Hid (OwnI wx w.heap.size (.slice (some ⟨go, 0, none⟩) ls.length c2) (lateTo ls (ls.length - m))) ∧ Hid (OwnI wx bz (.slice Z ls.length co) (cueOrder ls)) ∧ Hid (Below w.heap.size w wx)) (fun iv _ => (intOf iv + 1).toNat)
        case atStart => exact ⟨ls.length, (ls.length : Int) - 1, by omega, by omega, rfl, by rw [Nat.sub_self]; exact P3, Z3, B3⟩
        case round =>
          clear P3 Z3 B3
          obtain ⟨m, xi, hm, hx, rfl, PP, ZZ, BW⟩ := hrel
          rcases m with _ | i
          · obtain rfl : xi = -1 := by omega
            rw [Nat.sub_zero, ← R.out] at PP
            go_wp2
            go_ret
            exact ⟨_, rfl, PP.out, BW.out⟩
          obtain rfl : xi = (i : Int) := by omega
          have hlt : i < ls.length := by omega
          have hi0 : (0 : Int) ≤ (i : Int) := by omega
          have hi1 : (i : Int) < (ls.length : Int) := by omega
          obtain ⟨p, hp, hpe⟩ := order_get HOK.out hlt
          obtain ⟨gz, _, f1, -, -, z0, -⟩ := ZZ.out.spot (k := i) (by rw [OLH.out]; exact hlt)
          simp only [Value.slice.injEq] at f1
          obtain ⟨rfl, -, -⟩ := f1
          rw [show (cueOrder ls)[i]'(by rw [OLH.out]; exact hlt) = (p : Int) from by rw [List.getElem?_eq_getElem (by rw [OLH.out]; exact hlt)] at hpe; exact Option.some.inj hpe] at z0
          have NX := Lib.hid (show lateTo ls (ls.length - i) = pullTo ls p (lateTo ls (ls.length - (i + 1))) (ls.getD p RCue.zero).f1.length by
            rw [show ls.length - i = (ls.length - (i + 1)) + 1 by omega, lateTo]
            rw [show ls.length - (ls.length - (i + 1) + 1) = i by omega, List.getD_eq_getElem?_getD, hpe]
            rfl)
          have hp0 : (0 : Int) ≤ (p : Int) := by omega
          have hp1' : (p : Int) < (ls.length : Int) := by omega
          have PM := after_max HOK.out hp
          have HED := Lib.hid (show ls.getD p RCue.zero = ls[p] by rw [List.getD_eq_getElem?_getD, List.getElem?_eq_getElem hp]; rfl)
          have CF := Lib.hid ((cue_fine HOK.out hp).2)
          have RI := Lib.hid (pull_in HOK.out hp (late_in HOK.out (ls.length - (i + 1)) (by omega)) (by omega))
          have RL := Lib.hid (fun j => (show (pullTo ls p (lateTo ls (ls.length - (i + 1))) j).length = ls.length by rw [pull_len, late_len]))
          have hcut : ls.length - (i + 1) ≤ 12 := by omega
          obtain ⟨F, hF⟩ : ∃ F, (ls.getD p RCue.zero).f1.length = F := ⟨_, rfl⟩
          rw [hF] at NX PM CF RI
          have HF := Lib.hid hF
          clear hF hpe
          generalize hN : ls.length - (i + 1) = N at NX RI RL PP hcut
          generalize lateTo ls N = start at NX RI RL PP
          clear hN
          have P5 := Lib.hid (show OwnI wr w.heap.size (.slice (some ⟨go, 0, none⟩) ls.length c2) (pullTo ls p start 0) from PP.out)
          go_wp2_with fail
          go_loopw [9] (fun jv wr => ∃ j : Nat, j ≤ F ∧ jv = .int .i64 (j : Int) ∧ Hid (OwnI wr w.heap.size (.slice (some ⟨go, 0, none⟩) ls.length c2) (pullTo ls p start j)) ∧ Hid (OwnI wr bz (.slice (some ⟨gz, 0, none⟩) ls.length co) (cueOrder ls)) ∧ Hid (Below w.heap.size w wr)) (fun jv _ => F - (intOf jv).toNat)
          case atStart => exact ⟨0, by omega, rfl, P5, ZZ, BW⟩
          case round =>
            clear P5 PP ZZ BW z0
            obtain ⟨j, hj, rfl, PP, ZZ, BW⟩ := hrel
            obtain ⟨g, cg, A1, c1, A3, c3, f1, -, ⟨-, x1, -⟩, ⟨o1, -⟩, -⟩ := (AF.out _ BW.out).spot hp
            simp only [Value.slice.injEq] at f1
            obtain ⟨rfl, -, rfl⟩ := f1
            rw [← HED.out] at x1 o1
            by_cases hlj : j < F
            rotate_left
            · obtain rfl : j = F := by omega
              rw [← NX.out] at PP
              rw [HF.out] at x1
              clear o1 NX hlj hj
              have ei : IntKind.i64.wrap ((i : Int) - 1) = (i : Int) - 1 := IntWalk.i64_in _ (by omega)
              go_wp2
              exact ⟨⟨i, (i : Int) - 1, by omega, by omega, rfl, PP, ZZ, BW⟩, by simp [intOf]⟩
            have hj0 : (0 : Int) ≤ (j : Int) := by omega
            have hj1 : (j : Int) < (F : Int) := by omega
            obtain ⟨q0, q1⟩ := CF.out j hlj
            obtain ⟨q, hq⟩ := Int.eq_ofNat_of_zero_le q0
            rw [hq] at q0 q1
            obtain ⟨ga, ca, e1, -, -, y0, -⟩ := o1.spot (k := j) (by rw [HF.out]; exact hlj)
            simp only [Value.slice.injEq] at e1
            obtain ⟨rfl, -, rfl⟩ := e1
            rw [GA.out, hq] at y0
            rw [HF.out] at x1
            have hql : q < ls.length := by omega
            obtain ⟨_, _, _, _, _, _, f1, -, ⟨t0, -, -⟩, -⟩ := (AF.out _ BW.out).spot hql
            simp only [Value.slice.injEq, Option.some.injEq, Addr.mk.injEq] at f1
            obtain ⟨⟨rfl, _⟩, -, -⟩ := f1
            rw [show ls[q] = ls.getD q RCue.zero from by rw [List.getD_eq_getElem?_getD, List.getElem?_eq_getElem hql]; rfl] at t0
            have ft := (cue_fine HOK.out hql).1
            have hrl := RL.out j
            have hin := RI.out j (by omega)
            have b1 := hin p
            have b2 := hin q
            obtain ⟨_, _, f1, -, -, u0, -⟩ := PP.out.spot (k := p) (by rw [hrl]; exact hp)
            simp only [Value.slice.injEq, Option.some.injEq, Addr.mk.injEq] at f1
            obtain ⟨⟨rfl, _⟩, -, -⟩ := f1
            obtain ⟨_, _, f1, -, -, v0, vf⟩ := PP.out.spot (k := q) (by rw [hrl]; exact hql)
            simp only [Value.slice.injEq, Option.some.injEq, Addr.mk.injEq] at f1
            obtain ⟨⟨rfl, _⟩, -, -⟩ := f1
            rw [GA.out] at u0 v0
            have SET := PP.out.set (k := q) (by rw [hrl]) (if (pullTo ls p start j).getD p 0 - (ls.getD q RCue.zero).f0 < (pullTo ls p start j).getD q 0 then (pullTo ls p start j).getD p 0 - (ls.getD q RCue.zero).f0 else (pullTo ls p start j).getD q 0)
            rw [show (pullTo ls p start j).set q (if (pullTo ls p start j).getD p 0 - (ls.getD q RCue.zero).f0 < (pullTo ls p start j).getD q 0 then (pullTo ls p start j).getD p 0 - (ls.getD q RCue.zero).f0 else (pullTo ls p start j).getD q 0) = pullTo ls p start (j + 1) from by rw [pullTo]; rw [hq, Int.toNat_natCast]] at SET
            have hbs2 := BW.out.size
            have S2 := Lib.hid SET.1
            have B2 := Lib.hid (BW.out.grown SET.2 hbs2 (fun q hq => by have := Option.some.inj hq; omega))
            have Z2 := Lib.hid (ZZ.out.kept SET.2 (sep_of fun q e1 e2 => by have := SEP.out q e1; have := Option.some.inj e2; omega))
            clear SET hin hrl o1 hq PP ZZ BW
            generalize (pullTo ls p start j).getD p 0 = x at u0 b1 S2 B2 Z2
            generalize (pullTo ls p start j).getD q 0 = y at v0 b2 S2 B2 Z2
            generalize (ls.getD q RCue.zero).f0 = t at t0 ft S2 B2 Z2
            have ew : IntKind.i64.wrap (x - t) = x - t := IntWalk.i64_in _ (by omega)
            go_wp2_with fail
            go_still_tail 18, (by kernel_rfl)
            go_wp2
            exact ⟨⟨j + 1, by omega, by go_num, Lib.hid (S2.out.below (Below.refl _ _).drew), Lib.hid (Z2.out.below (Below.refl _ _).drew), Lib.hid B2.out.drew⟩, by simp [intOf]; omega⟩
end Go.Proofs.Ytbgogcobkiaejac
