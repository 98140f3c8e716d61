/- The contract of spec.IsPlan. Condition: the cues and the starts lie in rows of their own. -/
import Derived.Test.YtbgogcobkiaejacTilC
import Derived.BigQuiet
namespace Go.Proofs.Ytbgogcobkiaejac
set_option linter.unusedVariables false
set_option linter.unusedSimpArgs false
open Go.RowKit

set_option maxRecDepth 100000 in
set_option maxHeartbeats 3200000 in
theorem specIsP (v : Value) (ls : List RCue) (b : Nat) (w : World) (h : OwnCue w b v ls) (hl : bulkCue ls ≤ 1048576) (u : Value) (zs : List Int) (b2 : Nat) (h2 : OwnI w b2 u zs) (hz : zs.length ≤ 2000000) :
    Calls Try.prog 34 #[v, u] w fun e w' => e = .returned (.bool (isPlan ls zs)) ∧ Below w.heap.size w w' := by
  have CS := Lib.hid (specStr v ls b w h hl u zs b2 h2 hz)
  have CL := Lib.hid (fun W h h2 => specCla v ls b W h hl u zs b2 h2 hz)
  obtain ⟨A, c, rfl⟩ := h.slice
  obtain ⟨D, d, rfl⟩ := h2.slice
  have O := Lib.hid h
  have Z := Lib.hid h2
  clear h h2
  cases hs : startsFine ls zs with
  | false =>
    have R := Lib.hid (show isPlan ls zs = false by unfold isPlan; rw [hs]; rfl)
    rw [hs] at CS
    go_enter Try.func34, Try.ntmps34
    go_wp2_with fail
    refine CS.out.mono ?_
    rintro e w1 ⟨rfl, b1⟩
    have B1 := Lib.hid b1
    clear b1
    go_wp2
    go_ret
    exact ⟨by rw [R.out]; rfl, B1.out⟩
  | true =>
  obtain ⟨hok, hzl, hzb⟩ := fine_has hs
  have hn := (cuesOk_has hok).1
  have HOK := Lib.hid hok
  have HZL := Lib.hid hzl
  have HZB := Lib.hid hzb
  have RY := Lib.hid (show aheadB ls zs = true → isPlan ls zs = decide ((clashesIn ls zs).length = 0) from fun e => by unfold isPlan; rw [hs, e]; rfl)
  have RN := Lib.hid (show aheadB ls zs = false → isPlan ls zs = false from fun e => by unfold isPlan; rw [hs, e]; rfl)
  have YES := Lib.hid (ahead_yes (ls := ls) (zs := zs))
  have NO := Lib.hid (fun k j hk hj => ahead_no (ls := ls) (zs := zs) (k := k) (j := j) hk hj)
  rw [hs] at CS
  rw [hzl] at Z CS CL ⊢
  clear hs hok hzl hzb
  go_enter Try.func34, Try.ntmps34
  go_wp2_with fail
  refine CS.out.mono ?_
  rintro e w1 ⟨rfl, b1⟩
  have B1 := Lib.hid b1
  clear b1 CS
  go_wp2_with fail
  go_loopw [5] (fun iv wr => ∃ k : Nat, k ≤ ls.length ∧ iv = .int .i64 (k : Int) ∧ Hid (∀ p, p < k → ∀ j, j < (ls.getD p RCue.zero).f1.length → aheadAt ls zs p j = true) ∧ Hid (Below w.heap.size w wr)) (fun iv _ => ls.length - (intOf iv).toNat)
  case atStart => exact ⟨0, by omega, rfl, Lib.hid (fun p hp => absurd hp (by omega)), B1⟩
  case round =>
    clear B1
    obtain ⟨p, hp', rfl, AH, BW⟩ := hrel
    by_cases hp : p < ls.length
    rotate_left
    · obtain rfl : p = ls.length := by omega
      have R := Lib.hid (RY.out (YES.out AH.out))
      have wl := clashes_len ls zs
      generalize clashesIn ls zs = ps at CL R wl
      go_wp2_with fail
      refine (CL.out _ (O.out.below BW.out) (Z.out.below BW.out)).mono ?_
      rintro e w4 ⟨v4, rfl, o4, b4⟩
      obtain ⟨P, cp, rfl⟩ := o4.slice
      have B4 := Lib.hid (BW.out.trans (b4.mono BW.out.size))
      clear b4 o4 CL
      by_cases h0 : ps.length = 0
      · have R2 := Lib.hid (show isPlan ls zs = true by rw [R.out, h0]; rfl)
        go_wp2
        go_ret
        exact ⟨by rw [R2.out]; rfl, B4.out⟩
      · have R2 := Lib.hid (show isPlan ls zs = false by rw [R.out, decide_eq_false h0])
        have hpb : ((ps.length : Int) == 0) = false := by simp; exact fun e => h0 (by rw [e]; rfl)
        go_wp2
        go_ret
        exact ⟨by rw [R2.out]; rfl, B4.out⟩
    have hp0 : (0 : Int) ≤ (p : Int) := by omega
    have hp1 : (p : Int) < (ls.length : Int) := by omega
    have hed : ls.getD p RCue.zero = ls[p] := by rw [List.getD_eq_getElem?_getD, List.getElem?_eq_getElem hp]; rfl
    have PM := after_max HOK.out hp
    have CF := Lib.hid ((cue_fine HOK.out hp).2)
    have NOP := Lib.hid (fun j hj => NO.out p j hp hj)
    have AHP := Lib.hid (show ∀ F, (ls.getD p RCue.zero).f1.length = F → (∀ j, j < F → aheadAt ls zs p j = true) → ∀ q, q < p + 1 → ∀ j, j < (ls.getD q RCue.zero).f1.length → aheadAt ls zs q j = true from fun F hF h q hq j hj => by
      rcases (by omega : q < p ∨ q = p) with c | rfl
      · exact AH.out q c j hj
      · exact h j (by rw [← hF]; exact hj))
    obtain ⟨F, hF⟩ : ∃ F, (ls.getD p RCue.zero).f1.length = F := ⟨_, rfl⟩
    have A2 := Lib.hid (AHP.out F hF)
    rw [hF] at PM CF NOP
    have HF := Lib.hid hF
    have HED := Lib.hid hed
    clear hF hed AHP
    go_wp2_with fail
    go_loopw [6] (fun jv wr => ∃ j : Nat, j ≤ F ∧ jv = .int .i64 (j : Int) ∧ Hid (∀ i, i < j → aheadAt ls zs p i = true) ∧ Hid (Below w.heap.size w wr)) (fun jv _ => F - (intOf jv).toNat)
    case atStart => exact ⟨0, by omega, rfl, Lib.hid (fun i hi => absurd hi (by omega)), BW⟩
    case round =>
      clear BW
      obtain ⟨j, hj, rfl, AJ, BW⟩ := hrel
      obtain ⟨g, cg, A1, c1, A2', c2, f1, -, ⟨-, x1, -⟩, ⟨o1, -⟩, -⟩ := (O.out.below BW.out).spot hp
      simp only [Value.slice.injEq] at f1
      obtain ⟨rfl, -, rfl⟩ := f1
      rw [← HED.out] at x1 o1
      have gA : ∀ (zs : List Int) t (ht : t < zs.length), zs[t] = zs.getD t 0 := fun zs t ht => by rw [List.getD_eq_getElem?_getD, List.getElem?_eq_getElem ht]; rfl
      by_cases hlj : j < F
      rotate_left
      · obtain rfl : j = F := by omega
        have A3 := Lib.hid (A2.out AJ.out)
        rw [HF.out] at x1
        clear o1 hlj hj
        go_wp2
        exact ⟨⟨p + 1, by omega, by go_num, A3, BW⟩, by simp [intOf]; omega⟩
      have hj0 : (0 : Int) ≤ (j : Int) := by omega
      have hj1 : (j : Int) < (F : Int) := by omega
      obtain ⟨q0, q1⟩ := CF.out j hlj
      obtain ⟨q, hq⟩ := Int.eq_ofNat_of_zero_le q0
      rw [hq] at q0 q1
      obtain ⟨ga, ca, e1, -, -, y0, -⟩ := o1.spot (k := j) (by rw [HF.out]; exact hlj)
      simp only [Value.slice.injEq] at e1
      obtain ⟨rfl, -, rfl⟩ := e1
      rw [gA, hq] at y0
      rw [HF.out] at x1
      have hql : q < ls.length := by omega
      obtain ⟨_, _, _, _, _, _, f1, -, ⟨t0, -, -⟩, -⟩ := (O.out.below BW.out).spot hql
      simp only [Value.slice.injEq, Option.some.injEq, Addr.mk.injEq] at f1
      obtain ⟨⟨rfl, _⟩, -, -⟩ := f1
      rw [show ls[q] = ls.getD q RCue.zero from by rw [List.getD_eq_getElem?_getD, List.getElem?_eq_getElem hql]; rfl] at t0
      have ft := (cue_fine HOK.out hql).1
      obtain ⟨gs, _, f1, -, -, u0, -⟩ := (Z.out.below BW.out).spot (k := p) (by rw [HZL.out]; exact hp)
      simp only [Value.slice.injEq] at f1
      obtain ⟨rfl, -, rfl⟩ := f1
      obtain ⟨_, _, f1, -, -, v0, -⟩ := (Z.out.below BW.out).spot (k := q) (by rw [HZL.out]; exact hql)
      simp only [Value.slice.injEq, Option.some.injEq, Addr.mk.injEq] at f1
      obtain ⟨⟨rfl, _⟩, -⟩ := f1
      rw [gA] at u0 v0
      have b1 := HZB.out p
      have b2 := HZB.out q
      have AT := Lib.hid (show aheadAt ls zs p j = !decide (zs.getD p 0 < zs.getD q 0 + (ls.getD q RCue.zero).f0) by unfold aheadAt; rw [hq, Int.toNat_natCast])
      have NP := Lib.hid (NOP.out j hlj)
      have AN := Lib.hid (show aheadAt ls zs p j = true → ∀ i, i < j + 1 → aheadAt ls zs p i = true from fun e i hi => by
        rcases (by omega : i < j ∨ i = j) with c | rfl
        · exact AJ.out i c
        · exact e)
      generalize zs.getD p 0 = x at u0 b1 AT
      generalize zs.getD q 0 = y at v0 b2 AT
      generalize (ls.getD q RCue.zero).f0 = t at t0 ft AT
      have ew : IntKind.i64.wrap (y + t) = y + t := IntWalk.i64_in _ (by omega)
      have WY := Lib.hid (fun n => (below_drewN BW.out n : Below w.heap.size w (wr.drewN n)))
      clear gA o1 hq
      by_cases hc : x < y + t
      · have R := Lib.hid (RN.out (NP.out (by rw [AT.out, decide_eq_true hc]; rfl)))
        have d1 : decide (x < y + t) = true := decide_eq_true hc
        clear AN
        go_wp2_with fail
        go_quiet (fail)
        go_wp2
        go_ret
        exact ⟨by rw [R.out]; rfl, WY.out _⟩
      · have A3 := Lib.hid (AN.out (by rw [AT.out, decide_eq_false hc]; rfl))
        have d1 : decide (x < y + t) = false := decide_eq_false hc
        clear AN
        go_wp2_with fail
        go_quiet (fail)
        go_wp2
        exact ⟨⟨j + 1, by omega, by go_num, A3, Lib.hid (WY.out _)⟩, by simp [intOf]; omega⟩
end Go.Proofs.Ytbgogcobkiaejac
