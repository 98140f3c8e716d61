/- The contract of impl.PoseOk. Condition: the limbs and the numbers lie in rows of their own. -/
import Derived.Test.YtblbmppbbhibeaaImpOk
import Derived.Test.YtblbmppbbhibeaaPullS
import Derived.Test.YtblbmppbbhibeaaLstI
import Derived.Deep.AppendLies
import Derived.BigQuiet
namespace Go.Proofs.Ytblbmppbbhibeaa
set_option linter.unusedVariables false
set_option linter.unusedSimpArgs false
open Go.RowKit

theorem apart_holds {hs : List Int} {l : Lb} {p p' : Nat} {x y : Int} (h1 : l.a = (p : Int)) (h2 : l.b = (p' : Int)) (h3 : hs.getD p 0 = x) (h4 : hs.getD p' 0 = y) : limbHolds hs l = !decide (l.n < max (x - y) (-(x - y))) := by
  unfold limbHolds inRange
  rw [h1, h2, Int.toNat_natCast, Int.toNat_natCast, h3, h4, Bool.eq_iff_iff, decide_eq_true_eq, Bool.not_eq_true', decide_eq_false_iff_not]
  omega

set_option maxRecDepth 100000 in
set_option maxHeartbeats 1600000 in
theorem implPose_yes (m : Nat) (v vp : Value) (ls : List Lb) (hs : List Int) (base b2 : Nat) (w : World) (hown : OwnL w base v ls) (hp : OwnI w b2 vp hs) (hok : bodyOk m ls = true) (hl : hs.length = m) (hin : hs.all (inRange (-2000) 2000) = true) :
    Calls Try.prog 13 #[bodyV (m : Int) v, vp] w fun e w' => e = .returned (.bool (poseOk m ls hs)) ∧ Below w.heap.size w w' := by
  obtain ⟨hf, hlm, hm12, hrun⟩ := ok_parts' hok
  have CS := Lib.hid (fun W h => hok ▸ implOk m v ls base W h (by omega))
  have R := Lib.hid (show poseOk m ls hs = ls.all (limbHolds hs) by unfold poseOk; rw [hok, hin, decide_eq_true (by omega)]; rfl)
  have hlb : listB m hs (-2000) 2000 = true := by unfold listB; rw [hin, decide_eq_true (by omega)]; rfl
  obtain ⟨A, c, e⟩ := hown.slice
  subst e
  have CL := Lib.hid (fun W h => hlb ▸ isList_any m A ls.length c vp hs (-2000) 2000 b2 W h (by omega))
  obtain ⟨P, d, e⟩ := hp.slice
  subst e
  have OWN := Lib.hid hown
  have HP := Lib.hid hp
  have HF := Lib.hid hf
  have BX := Lib.hid (box_facts (J := (m : Int)) hown)
  have RG := Lib.hid (fun (k : Nat) (h : k < hs.length) => (by have := List.all_eq_true.1 hin hs[k] (List.getElem_mem h); simpa [inRange] using this : -2000 ≤ hs[k] ∧ hs[k] ≤ 2000))
  have hll : ls.length ≤ 11 := by omega
  clear hown hp hok hf hlm hrun hlb hin
  unfold bodyV at CS ⊢
  rw [hl] at CL ⊢
  go_enter Try.func13, Try.ntmps13
  go_wp2_with fail
  refine (CS.out _ (OWN.out.alloc _)).mono ?_
  rintro e w1 ⟨rfl, b1⟩
  simp only [World.size_alloc] at b1
  have hs1 := b1.size
  simp only [World.size_alloc] at hs1
  have B1 := Lib.hid b1
  obtain ⟨x0, x1, -, bw⟩ := BX.out w1 b1
  have P1 := Lib.hid (HP.out.below bw)
  clear b1 bw
  rw [hl] at P1
  go_wp2_with fail
  refine (CL.out _ P1.out).mono ?_
  rintro e w2 ⟨rfl, b2⟩
  have B2 := Lib.hid (B1.out.trans (b2.mono hs1))
  clear b2 x0 x1
  obtain ⟨x0, x1, -, bw⟩ := BX.out w2 B2.out
  clear bw
  go_wp2_with fail
  clear x0 x1
  go_loopw [20] (fun iv wr => ∃ q : Nat, q ≤ ls.length ∧ iv = .int .i64 (q : Int) ∧ Hid ((ls.take q).all (limbHolds hs) = true) ∧ Hid (Below (w.heap.size + 1) (w.alloc (.cells #[.int .i64 (m : Int), .slice A ls.length c] 26)) wr)) (fun iv _ => ls.length - (intOf iv).toNat)
  case atStart => exact ⟨0, by omega, rfl, rfl, B2⟩
  case round =>
    obtain ⟨q, hq, rfl, HB, HW⟩ := hrel
    obtain ⟨x0, x1, ol, bw⟩ := BX.out wr HW.out
    by_cases hlt : q < ls.length
    · obtain ⟨gl, cl, e2, _, ll, rl, _⟩ := ol.spot hlt
      simp only [Value.slice.injEq] at e2
      obtain ⟨rfl, hloop, rfl⟩ := e2
      clear hloop
      obtain ⟨p, p', hp, hp', hpm, hpm', _, hn⟩ := fits_at HF.out hlt
      have hn2 := (limb_pos HF.out hlt).2
      rw [limbAt_lt hlt] at hp hp' hn hn2
      obtain ⟨g, _, e1, _, _, z0, _⟩ := (HP.out.below bw).spot (k := p) (by omega)
      rw [hl] at e1
      simp only [Value.slice.injEq] at e1
      obtain ⟨rfl, em, ec⟩ := e1
      clear em ec
      obtain ⟨_, _, e1, _, _, z1, _⟩ := (HP.out.below bw).spot (k := p') (by omega)
      simp only [Value.slice.injEq, Option.some.injEq, Addr.mk.injEq] at e1
      obtain ⟨⟨rfl, _⟩, em, ec⟩ := e1
      clear em ec
      have h0 := RG.out p (by omega)
      have h1 := RG.out p' (by omega)
      have LH := Lib.hid (apart_holds hp hp' (getD_of (zs := hs) (k := p) (by omega)) (getD_of (zs := hs) (k := p') (by omega)))
      have AM := Lib.hid (show (ls.take (q + 1)).all (limbHolds hs) = ((ls.take q).all (limbHolds hs) && limbHolds hs ls[q]) by rw [List.take_succ_eq_append_getElem hlt, List.all_append]; simp)
      have NO := Lib.hid (fun hx => all_not (p := limbHolds hs) (List.getElem_mem hlt) hx)
      have r0 : wr.cell? ⟨gl, q * 3, none⟩ = some (.int .i64 ls[q].a) := rl 0 _ rfl
      have r1 : wr.cell? ⟨gl, q * 3 + 1, none⟩ = some (.int .i64 ls[q].b) := rl 1 _ rfl
      have r2 : wr.cell? ⟨gl, q * 3 + 2, none⟩ = some (.int .i64 ls[q].n) := rl 2 _ rfl
      rw [hp] at r0
      rw [hp'] at r1
      have BWr := Lib.hid bw
      have hsz := HW.out.size
      simp only [World.size_alloc] at hsz
      have hq0 : (0 : Int) ≤ (q : Int) := by omega
      have hq1 : (q : Int) < (ls.length : Int) := by omega
      have hp0 : (0 : Int) ≤ (p : Int) := by omega
      have hp1 : (p : Int) < (m : Int) := by omega
      have hp2 : (0 : Int) ≤ (p' : Int) := by omega
      have hp3 : (p' : Int) < (m : Int) := by omega
      clear rl ol bw hp hp'
      generalize hs[p]'(by omega) = x at z0 h0 LH
      generalize hs[p']'(by omega) = y at z1 h1 LH
      rw [LH.out] at AM
      have NO' := Lib.hid (fun hx => NO.out (LH.out.trans hx))
      generalize ls[q].n = n at r2 hn hn2 AM NO'
      have gw1 : IntKind.i64.wrap (x - y) = x - y := IntWalk.i64_in _ (by omega)
      have gw2 : IntKind.i64.wrap (-(x - y)) = -(x - y) := IntWalk.i64_in _ (by omega)
      clear NO LH
      have y0 := (elder z0).1
      have y1 := (elder z1).1
      have HW2 := Lib.hid ((HW.out.alloc hsz (.cells #[.int .i64 (p : Int), .int .i64 (p' : Int), .int .i64 n] 57)))
      by_cases hx : n < max (x - y) (-(x - y))
      · have R2 := Lib.hid (show poseOk m ls hs = false by rw [R.out, NO'.out (by rw [decide_eq_true hx]; rfl)])
        clear NO' AM
        go_wp2
        go_quiet (fail)
        go_wp2
        all_goals
          go_ret
          exact ⟨by rw [R2.out]; rfl, (BWr.out.alloc BWr.out.size _).trans (below_drewN (Below.refl _ _) _)⟩
      · have A2 := Lib.hid (show (ls.take (q + 1)).all (limbHolds hs) = true by rw [AM.out, HB.out, decide_eq_false hx]; rfl)
        clear NO' AM
        go_wp2
        go_quiet (fail)
        go_wp2
        all_goals exact ⟨⟨q + 1, by omega, by go_num, A2, Lib.hid (HW2.out.trans (below_drewN (Below.refl _ _) _))⟩, by simp [intOf]; omega⟩
    · obtain rfl : q = ls.length := by omega
      have HB2 := Lib.hid (show ls.all (limbHolds hs) = true by have := HB.out; rwa [List.take_length] at this)
      have R2 := Lib.hid (show poseOk m ls hs = true by rw [R.out, HB2.out])
      go_wp2
      go_ret
      exact ⟨by rw [R2.out]; rfl, bw⟩

set_option maxRecDepth 100000 in
set_option maxHeartbeats 800000 in
theorem implPose (J : Int) (v vp : Value) (ls : List Lb) (hs : List Int) (base b2 : Nat) (w : World) (hown : OwnL w base v ls) (hp : OwnI w b2 vp hs) (hll : ls.length ≤ 2000000) (hlh : hs.length ≤ 2000000) :
    Calls Try.prog 13 #[bodyV J v, vp] w fun e w' => e = .returned (.bool (poseOk J ls hs)) ∧ Below w.heap.size w w' := by
  by_cases h : bodyOk J ls = true ∧ listB J hs (-2000) 2000 = true
  · obtain ⟨hok, hlb⟩ := h
    unfold listB at hlb
    rw [Bool.and_eq_true, decide_eq_true_eq] at hlb
    obtain ⟨rfl, hin⟩ := hlb
    exact implPose_yes hs.length v vp ls hs base b2 w hown hp hok rfl hin
  · have CS := Lib.hid (fun W h => implOk J v ls base W h hll)
    obtain ⟨A, c, e⟩ := hown.slice
    subst e
    have CL := Lib.hid (fun W h => isList_any J A ls.length c vp hs (-2000) 2000 b2 W h hlh)
    obtain ⟨P, d, e⟩ := hp.slice
    subst e
    have OWN := Lib.hid hown
    have HP := Lib.hid hp
    have BX := Lib.hid (box_facts (J := J) hown)
    clear hown hp
    unfold bodyV at CS ⊢
    have R := Lib.hid (show poseOk J ls hs = false by
      cases hp : poseOk J ls hs with
      | false => rfl
      | true =>
        unfold poseOk at hp
        simp only [Bool.and_eq_true] at hp
        exact absurd ⟨hp.1, by unfold listB; rw [hp.2.1, hp.2.2.1]; rfl⟩ h)
    cases hok : bodyOk J ls with
    | false =>
      rw [hok] at CS
      clear h hok
      go_enter Try.func13, Try.ntmps13
      go_wp2_with fail
      refine (CS.out _ (OWN.out.alloc _)).mono ?_
      rintro e w1 ⟨rfl, b1⟩
      simp only [World.size_alloc] at b1
      obtain ⟨x0, x1, -, bw⟩ := BX.out w1 b1
      clear b1
      go_wp2
      go_ret
      exact ⟨by rw [R.out]; rfl, bw⟩
    | true =>
      have hlb : listB J hs (-2000) 2000 = false := by simpa using fun e => h ⟨hok, e⟩
      rw [hok] at CS
      rw [hlb] at CL
      clear h hok hlb
      go_enter Try.func13, Try.ntmps13
      go_wp2_with fail
      refine (CS.out _ (OWN.out.alloc _)).mono ?_
      rintro e w1 ⟨rfl, b1⟩
      simp only [World.size_alloc] at b1
      have hs1 := b1.size
      simp only [World.size_alloc] at hs1
      have B1 := Lib.hid b1
      obtain ⟨x0, x1, -, bw⟩ := BX.out w1 b1
      have P1 := Lib.hid (HP.out.below bw)
      clear b1 bw
      go_wp2_with fail
      refine (CL.out _ P1.out).mono ?_
      rintro e w2 ⟨rfl, b2⟩
      have B2 := Lib.hid (B1.out.trans (b2.mono hs1))
      clear b2 x0 x1
      obtain ⟨x0, x1, -, bw⟩ := BX.out w2 B2.out
      go_wp2
      go_ret
      exact ⟨by rw [R.out]; rfl, bw⟩
end Go.Proofs.Ytblbmppbbhibeaa
