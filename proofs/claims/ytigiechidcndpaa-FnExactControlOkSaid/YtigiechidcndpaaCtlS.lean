/- The contract of spec.ControlOk. Condition: the arms and the cords lie in rows of their own. -/
import Derived.Test.YtigiechidcndpaaCtlM
import Derived.Test.YtigiechidcndpaaCtl
namespace Go.Proofs.Ytigiechidcndpaa
set_option linter.unusedVariables false
open Go.RowKit

set_option maxRecDepth 100000 in
set_option maxHeartbeats 3200000 in
theorem specCtl (H : Int) (va vc : Value) (zs : List Int) (cs : List Lb) (J : Int) (b : Nat) (w : World) (hown : OwnK w b va vc zs cs) (hz : zs.length ≤ 2000000) (hc : cs.length ≤ 2000000) (hJ : (Lit.int .i64 J).wf = true) :
    Calls Try.prog 20 #[ctlV H va vc, .int .i64 J] w fun e w' => e = .returned (.bool (ctlOk H zs cs J)) ∧ Below w.heap.size w w' := by
  obtain ⟨A, a, C, c, rfl, rfl⟩ := hown.slice
  have BX := Lib.hid (show ∀ W, Below (w.heap.size + 1) (w.alloc (.cells #[.int .i64 H, .slice A zs.length a, .slice C cs.length c] 27)) W →
      W.cell? ⟨w.heap.size, 0, none⟩ = some (.int .i64 H) ∧ W.cell? ⟨w.heap.size, 1, none⟩ = some (.slice A zs.length a) ∧ W.cell? ⟨w.heap.size, 2, none⟩ = some (.slice C cs.length c) ∧ OwnI W b (.slice A zs.length a) zs ∧ OwnC W b (.slice C cs.length c) cs ∧ Below w.heap.size w W from fun W hb => by
    have x := (boxV_new w [.int .i64 H, .slice A zs.length a, .slice C cs.length c] 27).below (hb.mono (by simp))
    have o := (hown.alloc (.cells #[.int .i64 H, .slice A zs.length a, .slice C cs.length c] 27)).below (hb.mono (by simp))
    exact ⟨x 0 _ rfl, x 1 _ rfl, x 2 _ rfl, o.1, o.2.1, ((Below.refl w.heap.size w).alloc (Nat.le_refl _) _).trans (hb.mono (by omega))⟩)
  clear hown
  unfold ctlV
  have C0 := Lib.hid (fun v lo hi W => l01In_any v lo hi W)
  cases e1 : inB H 0 500 with
  | false =>
    have R := Lib.hid (show ctlOk H zs cs J = false from ctl_head_no (by simp [ctlHead, e1]))
    go_enter Try.func20, Try.ntmps20
    go_wp2_with (go_at_call 44; refine (C0.out _ _ _ _).mono ?_; rintro e w' ⟨rfl, rfl⟩)
    go_ret
    exact ⟨by rw [R.out]; rfl, (Below.refl w.heap.size w).alloc (Nat.le_refl _) _⟩
  | true =>
  cases e2 : inB (zs.length : Int) 1 8 with
  | false =>
    have R := Lib.hid (show ctlOk H zs cs J = false from ctl_head_no (by simp [ctlHead, e2]))
    go_enter Try.func20, Try.ntmps20
    go_wp2_with (go_at_call 44; refine (C0.out _ _ _ _).mono ?_; rintro e w' ⟨rfl, rfl⟩)
    go_ret
    exact ⟨by rw [R.out]; rfl, (Below.refl w.heap.size w).alloc (Nat.le_refl _) _⟩
  | true =>
  by_cases e3 : cs.length ≤ 12
  rotate_left
  · have R := Lib.hid (show ctlOk H zs cs J = false from ctl_head_no (by simp [ctlHead, e3]))
    have e3' : (12 : Int) < (cs.length : Int) := by omega
    go_enter Try.func20, Try.ntmps20
    go_wp2_with (go_at_call 44; refine (C0.out _ _ _ _).mono ?_; rintro e w' ⟨rfl, rfl⟩)
    go_ret
    exact ⟨by rw [R.out]; rfl, (Below.refl w.heap.size w).alloc (Nat.le_refl _) _⟩
  have e3' : ¬ (12 : Int) < (cs.length : Int) := by omega
  have HH := Lib.hid (show ctlHead H zs.length cs.length = true by simp [ctlHead, e1, e2, e3])
  go_enter Try.func20, Try.ntmps20
  go_wp2_with (go_at_call 44; refine (C0.out _ _ _ _).mono ?_; rintro e w' ⟨rfl, rfl⟩)
  clear e1 e2 e3'
  go_loopw [5] (fun iv wr => ∃ k : Nat, k ≤ zs.length ∧ iv = .int .i64 (k : Int) ∧ Below (w.heap.size + 1) (w.alloc (.cells #[.int .i64 H, .slice A zs.length a, .slice C cs.length c] 27)) wr ∧ Hid ((zs.take k).all armB = true)) (fun iv _ => zs.length - (intOf iv).toNat)
  case atStart => exact ⟨0, by omega, rfl, Below.refl _ _, rfl⟩
  case round =>
    obtain ⟨k, hk, rfl, hb, HA⟩ := hrel
    obtain ⟨x0, x1, x2, oi, oc, bw⟩ := BX.out wr hb
    by_cases hlt : k < zs.length
    · obtain ⟨g, _, f1, _, _, z0, _⟩ := oi.spot hlt
      simp only [Value.slice.injEq] at f1
      obtain ⟨rfl, em, rfl⟩ := f1
      clear em oi oc
      have hk0 : (0 : Int) ≤ (k : Int) := by omega
      have hk1 : (k : Int) < (zs.length : Int) := by omega
      have AM := Lib.hid (all_upto (p := armB) hlt)
      have NO := Lib.hid (fun hx => ctl_arm_no (H := H) (cs := cs) (J := J) hlt hx)
      have HB := Lib.hid hb
      clear hb
      generalize zs[k] = x at z0 AM NO
      cases hx : armB x with
      | false =>
        have R := Lib.hid (NO.out hx)
        unfold armB at hx
        go_wp2_with (go_at_call 44; refine (C0.out _ _ _ _).mono ?_; rintro e w' ⟨rfl, rfl⟩)
        go_ret
        exact ⟨by rw [R.out]; rfl, bw⟩
      | true =>
        have A2 := Lib.hid (show (zs.take (k + 1)).all armB = true by rw [AM.out, HA.out]; exact hx)
        unfold armB at hx
        go_wp2_with (go_at_call 44; refine (C0.out _ _ _ _).mono ?_; rintro e w' ⟨rfl, rfl⟩)
        exact ⟨⟨k + 1, by omega, by go_num, HB.out, A2⟩, by simp [intOf]; omega⟩
    · obtain rfl : k = zs.length := by omega
      have HB := Lib.hid hb
      clear hb oi oc
      go_wp2_with fail
      clear x0 x1 x2 bw
      go_loopw [6] (fun iv wi => ∃ k : Nat, k ≤ cs.length ∧ iv = .int .i64 (k : Int) ∧ Below (w.heap.size + 1) (w.alloc (.cells #[.int .i64 H, .slice A zs.length a, .slice C cs.length c] 27)) wi ∧ Hid ((cs.take k).all (cordB zs.length J) = true) ∧ Hid (onceTo cs k = true)) (fun iv _ => cs.length - (intOf iv).toNat)
      case atStart => exact ⟨0, by omega, rfl, HB.out, rfl, rfl⟩
      case round =>
        clear HB
        obtain ⟨k, hk, rfl, hb, HC, HO⟩ := hrel
        obtain ⟨x0, x1, x2, oi, oc, bw⟩ := BX.out _ hb
        by_cases hlt : k < cs.length
        · obtain ⟨g, _, f1, _, lg, rg, _⟩ := oc.spot hlt
          simp only [Value.slice.injEq] at f1
          obtain ⟨rfl, em, rfl⟩ := f1
          clear em
          have r0 : wr.cell? ⟨g, k * 3, none⟩ = some (.int .i64 cs[k].a) := rg 0 _ rfl
          have r1 : wr.cell? ⟨g, k * 3 + 1, none⟩ = some (.int .i64 cs[k].b) := rg 1 _ rfl
          have r2 : wr.cell? ⟨g, k * 3 + 2, none⟩ = some (.int .i64 cs[k].n) := rg 2 _ rfl
          have hk0 : (0 : Int) ≤ (k : Int) := by omega
          have hk1 : (k : Int) < (cs.length : Int) := by omega
          have hsz := hb.size
          simp only [World.size_alloc] at hsz
          have y0 := fun o : Obj => (World.cell?_alloc_lt wr o ⟨w.heap.size, 0, none⟩ (by show w.heap.size < _; omega)).trans x0
          have y1 := fun o : Obj => (World.cell?_alloc_lt wr o ⟨w.heap.size, 1, none⟩ (by show w.heap.size < _; omega)).trans x1
          have y2 := fun o : Obj => (World.cell?_alloc_lt wr o ⟨w.heap.size, 2, none⟩ (by show w.heap.size < _; omega)).trans x2
          have BA := Lib.hid (fun o : Obj => bw.alloc bw.size o)
          have HB := Lib.hid hb
          have CM := Lib.hid (all_upto (p := cordB zs.length J) hlt)
          have OM := Lib.hid (once_more hlt)
          have NC := Lib.hid (fun hx => ctl_cord_no (H := H) (zs := zs) (J := J) hlt hx)
          have NO := Lib.hid (fun i hi hx => ctl_once_no (H := H) (zs := zs) (J := J) (i := i) hlt hi hx)
          have OC := Lib.hid oc
          have hw : IntKind.i64.wrap ((zs.length : Int) - 1) = (zs.length : Int) - 1 := IntWalk.i64_in _ (by omega)
          obtain ⟨Jw, hwJ⟩ : ∃ Jw, IntKind.i64.wrap (J - 1) = Jw := ⟨_, rfl⟩
          have HW := Lib.hid (show 1 ≤ J → Jw = J - 1 from fun h => hwJ.symm.trans (IntWalk.i64_in _ (by have := wf_i64 hJ; omega)))
          clear rg oi oc bw hb
          generalize cs[k] = q at r0 r1 r2 CM OM NC NO
          obtain ⟨qa, qb, qn⟩ := q
          simp only at r0 r1 r2
          by_cases g1 : inB qa 0 ((zs.length : Int) - 1) = true
          rotate_left
          · have R := Lib.hid (NC.out (by simp [cordB, g1]))
            rw [Bool.not_eq_true] at g1
            go_wp2_with (go_at_call 44; refine (C0.out _ _ _ _).mono ?_; rintro e w' ⟨rfl, rfl⟩)
            go_returns
            exact ⟨by rw [R.out]; rfl, BA.out _⟩
          by_cases g2 : inB qb 0 Jw = true
          rotate_left
          · have R := Lib.hid (NC.out (by
              have : inB qb 0 (J - 1) = false := by
                by_cases h1 : 1 ≤ J
                · rw [HW.out h1] at g2
                  simpa using g2
                · exact inB_no (by omega)
              simp [cordB, this]))
            rw [Bool.not_eq_true] at g2
            go_wp2_with (go_at_call 44; refine (C0.out _ _ _ _).mono ?_; rintro e w' ⟨rfl, rfl⟩)
            go_returns
            exact ⟨by rw [R.out]; rfl, BA.out _⟩
          by_cases g3 : J < 1
          · have R := Lib.hid (NC.out (by
              have : inB qb 0 (J - 1) = false := inB_no (by omega)
              simp [cordB, this]))
            go_wp2_with (go_at_call 44; refine (C0.out _ _ _ _).mono ?_; rintro e w' ⟨rfl, rfl⟩)
            go_returns
            exact ⟨by rw [R.out]; rfl, BA.out _⟩
          by_cases g4 : inB qn 0 500 = true
          rotate_left
          · have R := Lib.hid (NC.out (by simp [cordB, g4]))
            rw [Bool.not_eq_true] at g4
            go_wp2_with (go_at_call 44; refine (C0.out _ _ _ _).mono ?_; rintro e w' ⟨rfl, rfl⟩)
            go_returns
            exact ⟨by rw [R.out]; rfl, BA.out _⟩
          have C2 := Lib.hid (show (cs.take (k + 1)).all (cordB zs.length J) = true by
            have g2' : inB qb 0 (J - 1) = true := by
              rw [← HW.out (by omega)]
              exact g2
            rw [CM.out, HC.out]
            simp [cordB, g1, g2', g4])
          go_wp2_with (go_at_call 44; refine (C0.out _ _ _ _).mono ?_; rintro e w' ⟨rfl, rfl⟩)
          have BN := Lib.hid (show ∀ W, Below (wr.heap.size + 1) (wr.alloc (.cells #[.int .i64 qa, .int .i64 qb, .int .i64 qn] 55)) W →
              W.cell? ⟨w.heap.size, 2, none⟩ = some (.slice (some ⟨g, 0, none⟩) cs.length c) ∧ W.cell? ⟨wr.heap.size, 1, none⟩ = some (.int .i64 qb) ∧ (∀ i (hi : i < cs.length), W.cell? ⟨g, i * 3 + 1, none⟩ = some (.int .i64 cs[i].b)) ∧ Below (w.heap.size + 1) (w.alloc (.cells #[.int .i64 H, .slice A zs.length a, .slice (some ⟨g, 0, none⟩) cs.length c] 27)) W ∧ Below w.heap.size w W from fun W hb => by
            refine ⟨(hb.cell (by show w.heap.size < _; omega)).trans (y2 _), (hb.cell (by show wr.heap.size < _; omega)).trans (by simp [go_sem]), fun i hi => ?_, (HB.out.alloc hsz _).trans (hb.mono (by omega)), (BA.out _).trans (hb.mono (by omega))⟩
            obtain ⟨g', _, f', _, lg', rg', _⟩ := (OC.out.alloc (.cells #[.int .i64 qa, .int .i64 qb, .int .i64 qn] 55)).spot hi
            simp only [Value.slice.injEq, Option.some.injEq, Addr.mk.injEq] at f'
            obtain ⟨⟨rfl, _⟩, _⟩ := f'
            rw [hb.cell (by show g < _; omega)]
            exact rg' 1 _ rfl)
          have hkz := hk1
          clear x0 x1 x2 y0 y1 y2 r0 r1 r2 g1 g2 g3 g4 BA hwJ
          go_loopw [8] (fun iv wi => ∃ i : Nat, i ≤ k ∧ iv = .int .i64 (i : Int) ∧ Below (wr.heap.size + 1) (wr.alloc (.cells #[.int .i64 qa, .int .i64 qb, .int .i64 qn] 55)) wi ∧ Hid ((cs.take i).all (apartFrom qb) = true)) (fun iv _ => k - (intOf iv).toNat)
          case atStart => exact ⟨0, by omega, rfl, Below.refl _ _, rfl⟩
          case round =>
            obtain ⟨i, hi, rfl, hb, HI⟩ := hrel
            obtain ⟨x2, q1, ri, bb, bw⟩ := BN.out _ hb
            by_cases hlt' : i < k
            · have ri := ri i (by omega)
              have AM := Lib.hid (all_upto (p := apartFrom qb) (show i < cs.length by omega))
              have NI := Lib.hid (fun hx => NO.out i hlt' hx)
              have HB2 := Lib.hid hb
              have hi0 : (0 : Int) ≤ (i : Int) := by omega
              have hi1 : (i : Int) < (cs.length : Int) := by omega
              have hi2 : (i : Int) < (k : Int) := by omega
              clear hb bb
              generalize cs[i] = y at ri AM NI
              obtain ⟨ya, yb, yn⟩ := y
              simp only at ri AM NI
              by_cases hq : yb = qb
              · have R := Lib.hid (NI.out hq)
                subst hq
                go_wp2
                go_quiet (fail)
                go_wp2
                go_ret
                exact ⟨by rw [R.out]; rfl, below_drewN bw _⟩
              · have A2 := Lib.hid (show (cs.take (i + 1)).all (apartFrom qb) = true by rw [AM.out, HI.out]; simp [apartFrom, hq])
                have hq' : (yb == qb) = false := by simpa using hq
                go_wp2
                go_quiet (fail)
                go_wp2
                exact ⟨⟨i + 1, by omega, by go_num, below_drewN HB2.out _, A2⟩, by simp [intOf]; omega⟩
            · obtain rfl : i = k := by omega
              have O2 := Lib.hid (show onceTo cs (i + 1) = true by rw [OM.out, HO.out, HI.out]; rfl)
              clear hb
              have BB := Lib.hid bb
              clear bb
              go_wp2
              exact ⟨⟨i + 1, by omega, by go_num, BB.out, C2, O2⟩, by simp [intOf]; omega⟩
        · obtain rfl : k = cs.length := by omega
          have R := Lib.hid (show ctlOk H zs cs J = true from ctl_yes HH.out HA.out HC.out HO.out)
          clear oi oc hb
          go_wp2
          go_ret
          exact ⟨by rw [R.out]; rfl, bw⟩
end Go.Proofs.Ytigiechidcndpaa
