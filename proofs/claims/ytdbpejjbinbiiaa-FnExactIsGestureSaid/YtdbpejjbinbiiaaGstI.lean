/- The contract of impl.IsGesture (made by gen_gest.py). Condition: the limbs and the poses lie in rows of their own. -/
import Derived.Test.YtdbpejjbinbiiaaGstM
import Derived.Test.YtdbpejjbinbiiaaRow2
import Derived.Test.YtdbpejjbinbiiaaStpI
import Derived.Test.YtdbpejjbinbiiaaHangP
namespace Go.Proofs.Ytdbpejjbinbiiaa
set_option linter.unusedVariables false
set_option linter.unusedSimpArgs false
open Go.RowKit

set_option maxRecDepth 100000 in
set_option maxHeartbeats 3200000 in
theorem implGest (J : Int) (v vp : Value) (ls : List Lb) (pss : List (List Int)) (most : Int) (base b2 : Nat) (w : World) (hown : OwnL w base v ls) (hp : OwnR w b2 vp pss) (hll : ls.length ≤ 2000000) (hl : pss.length ≤ 2000000) (hr : ∀ r (h : r < pss.length), pss[r].length ≤ 2000000) :
    Calls Try.prog 19 #[bodyV J v, vp, .int .i64 most] w fun e w' => e = .returned (.bool (isGest J ls pss most)) ∧ Below w.heap.size w w' := by
  have CP := Lib.hid (fun vh hs W h1 h2 hz => implPose J v vh ls hs base b2 W h1 h2 hll hz)
  have CS := Lib.hid (fun v1 v2 ps qs W h1 h2 hp hq => implStep v1 v2 ps qs b2 b2 W h1 h2 hp hq)
  have C0 := Lib.hid (fun v lo hi W => (inRange_any v lo hi W).mono fun e w' h => (show _ ∧ W = w' from ⟨h.1, h.2.symm⟩))
  have HR := Lib.hid hr
  obtain ⟨A, c, rfl⟩ := hown.slice
  obtain ⟨P, d, rfl⟩ := hp.slice
  have OWN := Lib.hid hown
  have HP := Lib.hid hp
  have BX := Lib.hid (box_facts (J := J) hown)
  have BA := Lib.hid ((Below.refl w.heap.size w).alloc (Nat.le_refl _) (.cells #[.int .i64 J, .slice A ls.length c] 26))
  clear hown hp hr
  unfold bodyV at CP ⊢
  cases c1 : inB (pss.length : Int) 1 20 with
  | false =>
    have R := Lib.hid (show isGest J ls pss most = false by unfold isGest; rw [c1]; rfl)
    go_enter Try.func19, Try.ntmps19
    go_wp2_with (go_at_call 51; refine (C0.out _ _ _ _).mono ?_; rintro e w' ⟨rfl, rfl⟩)
    go_ret
    exact ⟨by rw [R.out]; rfl, BA.out⟩
  | true =>
  cases c2 : inB most 0 4000 with
  | false =>
    have R := Lib.hid (show isGest J ls pss most = false by unfold isGest; rw [c1, c2]; rfl)
    go_enter Try.func19, Try.ntmps19
    go_wp2_with (go_at_call 51; refine (C0.out _ _ _ _).mono ?_; rintro e w' ⟨rfl, rfl⟩)
    go_ret
    exact ⟨by rw [R.out]; rfl, BA.out⟩
  | true =>
  have RY := Lib.hid (show gestTo J ls pss most pss.length = true → isGest J ls pss most = true from fun h => by unfold isGest; rw [c1, c2, h]; rfl)
  have hmr : 0 ≤ most ∧ most ≤ 4000 := by simpa [inB] using c2
  go_enter Try.func19, Try.ntmps19
  go_wp2_with (go_at_call 51; refine (C0.out _ _ _ _).mono ?_; rintro e w' ⟨rfl, rfl⟩)
  clear c1 c2
  go_loopw [20] (fun iv wr => ∃ k : Nat, k ≤ pss.length ∧ iv = .int .i64 (k : Int) ∧ Hid (Below (w.heap.size + 1) (w.alloc (.cells #[.int .i64 J, .slice A ls.length c] 26)) wr) ∧ Hid (gestTo J ls pss most k = true)) (fun iv _ => pss.length - (intOf iv).toNat)
  case atStart => exact ⟨0, by omega, rfl, Lib.hid (Below.refl _ _), rfl⟩
  case round =>
    obtain ⟨k, hk, rfl, HB, HG⟩ := hrel
    by_cases hlt : k < pss.length
    rotate_left
    · obtain rfl : k = pss.length := by omega
      have R := Lib.hid (RY.out HG.out)
      obtain ⟨-, -, -, bw⟩ := BX.out wr HB.out
      go_wp2
      go_ret
      exact ⟨by rw [R.out]; rfl, bw⟩
    have hk0 : (0 : Int) ≤ (k : Int) := by omega
    have hk1 : (k : Int) < (pss.length : Int) := by omega
    obtain ⟨x0, x1, ol, bw⟩ := BX.out wr HB.out
    obtain ⟨g, _, U, cu, f1, z0, _, oi⟩ := (HP.out.below bw).spot hlt
    simp only [Value.slice.injEq] at f1
    obtain ⟨rfl, em, rfl⟩ := f1
    clear em
    have hz := HR.out k hlt
    have hsz := HB.out.size
    simp only [World.size_alloc] at hsz
    have BAD := Lib.hid (fun hp => gest_no hlt (gest_bad (J := J) (ls := ls) (most := most) hlt hp))
    have MORE := Lib.hid (show gestAt J ls pss most k = true → gestTo J ls pss most (k + 1) = true from fun h => by rw [gestTo, HG.out, h]; rfl)
    have NO := Lib.hid (fun h => gest_no (J := J) (ls := ls) (most := most) hlt h)
    have BW := Lib.hid bw
    have OL := Lib.hid ol
    have OI := Lib.hid oi
    clear ol oi bw
    cases g1 : poseOk J ls pss[k] with
    | false =>
      have R := Lib.hid (BAD.out g1)
      clear BAD MORE NO
      generalize pss[k] = ps at z0 OI g1 hz
      go_wp2_with fail
      refine (CP.out _ ps _ OL.out OI.out hz).mono ?_
      rintro e w3 ⟨rfl, b3⟩
      rw [g1]
      have B3 := Lib.hid (BW.out.trans (b3.mono BW.out.size))
      clear b3
      go_wp2
      go_ret
      exact ⟨by rw [R.out]; rfl, B3.out⟩
    | true =>
    clear BAD
    cases k with
    | zero =>
      have M := Lib.hid (MORE.out (by rw [gest_first hlt]; exact g1))
      clear MORE NO
      generalize pss[0] = ps at z0 OI g1 hz
      go_wp2_with fail
      refine (CP.out _ ps _ OL.out OI.out hz).mono ?_
      rintro e w3 ⟨rfl, b3⟩
      rw [g1]
      have B3 := Lib.hid (HB.out.trans (b3.mono hsz))
      clear b3
      go_wp2
      exact ⟨⟨0 + 1, by omega, by go_num, B3, M⟩, by simp [intOf]; omega⟩
    | succ k =>
      have hltj : k < pss.length := by omega
      have hzj := HR.out k hltj
      have NX := Lib.hid (gest_next (J := J) (ls := ls) (most := most) hlt)
      generalize pss[k + 1] = ps at z0 OI g1 hz NX
      have SR := Lib.hid (step_range pss[k] ps)
      have e1 : IntKind.i64.wrap (k : Int) = (k : Int) := IntWalk.i64_in _ (by omega)
      have hk2 : (0 : Int) < (k : Int) + 1 := by omega
      have hk3 : (k : Int) < (pss.length : Int) := by omega
      have hk4 : (0 : Int) ≤ (k : Int) := by omega
      go_wp2_with fail
      refine (CP.out _ ps _ OL.out OI.out hz).mono ?_
      rintro e w3 ⟨rfl, b3⟩
      rw [g1]
      have B3 := Lib.hid (HB.out.trans (b3.mono hsz))
      have W3 := Lib.hid (BW.out.trans (b3.mono BW.out.size))
      have OI3 := Lib.hid (OI.out.below b3)
      obtain ⟨_, _, V, cv, f2, z1, _, oj⟩ := (HP.out.below W3.out).spot hltj
      simp only [Value.slice.injEq, Option.some.injEq, Addr.mk.injEq] at f2
      obtain ⟨⟨rfl, _⟩, em, rfl⟩ := f2
      clear em b3
      generalize pss[k] = qs at z1 oj hzj NX SR
      have OJ := Lib.hid oj
      clear oj
      by_cases hc : most < stepSize qs ps
      · have R := Lib.hid (NO.out (by rw [NX.out, g1, decide_eq_true hc]; rfl))
        clear MORE NO NX
        generalize hre : stepSize qs ps = r at hc SR
        have RE := Lib.hid hre
        clear hre
        go_wp2_with fail
        refine (CS.out _ _ qs ps _ OJ.out OI3.out hzj hz).mono ?_
        rintro e w4 ⟨rfl, b4⟩
        rw [RE.out]
        have W4 := Lib.hid (W3.out.trans (b4.mono W3.out.size))
        clear b4
        go_wp2
        go_ret
        exact ⟨by rw [R.out]; rfl, W4.out⟩
      · have M := Lib.hid (MORE.out (by rw [NX.out, g1, decide_eq_false hc]; rfl))
        clear MORE NO NX
        generalize hre : stepSize qs ps = r at hc SR
        have RE := Lib.hid hre
        clear hre
        go_wp2_with fail
        refine (CS.out _ _ qs ps _ OJ.out OI3.out hzj hz).mono ?_
        rintro e w4 ⟨rfl, b4⟩
        rw [RE.out]
        have z3 := B3.out.size
        simp only [World.size_alloc] at z3
        have B4 := Lib.hid (B3.out.trans (b4.mono z3))
        clear b4
        go_wp2
        exact ⟨⟨k + 1 + 1, by omega, by go_num, B4, M⟩, by simp [intOf]; omega⟩
end Go.Proofs.Ytdbpejjbinbiiaa
