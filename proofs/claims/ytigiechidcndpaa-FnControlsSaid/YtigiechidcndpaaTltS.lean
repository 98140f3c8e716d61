/- The contract of spec.TiltArm. Condition: the arms and the cords lie in rows of their own. -/
import Derived.Test.YtigiechidcndpaaTilS
import Derived.Deep.Cut
namespace Go.Proofs.Ytigiechidcndpaa
set_option linter.unusedVariables false
set_option linter.unusedSimpArgs false
open Go.RowKit

theorem tilt_no {zs : List Int} {i n : Int} (h : tiltOk zs i n = false) : tiltZs zs i n = zs := by
  unfold tiltZs
  rw [if_neg (by simp [h])]
theorem tilt_head_no {zs : List Int} {i n : Int} (h : tiltHead zs i n = false) : tiltOk zs i n = false := by
  unfold tiltOk
  rw [h]
  rfl
theorem tilt_arm_no {zs : List Int} {i n : Int} {k : Nat} (hk : k < zs.length) (h : armB zs[k] = false) : tiltOk zs i n = false := by
  unfold tiltOk
  rw [all_miss (List.getElem_mem hk) h]
  simp

set_option maxRecDepth 100000 in
set_option maxHeartbeats 3200000 in
theorem specTilt (H i n : Int) (va vc : Value) (zs : List Int) (cs : List Lb) (b : Nat) (w : World) (hown : OwnK w b va vc zs cs) (hz : zs.length ≤ 2000000) (hc : cs.length ≤ 2000000) (hi : (Lit.int .i64 i).wf = true) :
    Calls Try.prog 28 #[ctlV H va vc, .int .i64 i, .int .i64 n] w (PairK w H (tiltZs zs i n) cs (tiltOk zs i n)) := by
  have CC := Lib.hid (fun W h => copyK_any H va vc zs cs b W h hz hc)
  obtain ⟨A, a, C, c, rfl, rfl⟩ := hown.slice
  have OWN := Lib.hid ((hown.alloc (.cells #[.int .i64 H, .slice A zs.length a, .slice C cs.length c] 27)).alloc (.cells #[.int .i64 0, .slice none 0 0, .slice none 0 0] 27))
  have X0 := Lib.hid ((boxV_new w [.int .i64 H, .slice A zs.length a, .slice C cs.length c] 27).alloc (.cells #[.int .i64 0, .slice none 0 0, .slice none 0 0] 27))
  have C0 := Lib.hid (fun v lo hi W => (l01In_any v lo hi W).mono fun e w' h => (show _ ∧ W = w' from ⟨h.1, h.2.symm⟩))
  have GA := Lib.hid hown.ltB
  clear hown
  unfold ctlV at CC ⊢
  go_enter Try.func28, Try.ntmps28
  go_wp2_with fail
  refine (CC.out _ OWN.out).mono ?_
  rintro e w1 ⟨va, vc, rfl, o1, b1⟩
  obtain ⟨A2, a2, C2, c2, rfl, rfl⟩ := o1.slice
  have z1 := b1.size
  simp only [World.size_alloc] at z1 o1
  have K1 := Lib.hid o1
  have B1 := Lib.hid b1
  clear o1 b1
  unfold ctlV
  go_upto_region 2 with (fail)
  generalize hw : w1.alloc (.cells #[.int .i64 H, .slice A2 zs.length a2, .slice C2 cs.length c2] 27) = w2
  replace hw := hw.symm
  obtain ⟨⟨p0, p1, p2⟩, ⟨q0, q1, q2⟩, b2, z2⟩ := fresh3 hw
  have XB := Lib.hid ((X0.out.below B1.out).below b2)
  have KA := Lib.hid ((OWN.out.below B1.out).below b2)
  obtain ⟨d0, d1, d2, f0, f1, f2⟩ := newBox3 (B1.out.trans (b2.mono (by simpa using z1)))
  have K2 := Lib.hid (K1.out.below b2)
  have B2 := Lib.hid ((((Below.refl w.heap.size w).alloc (Nat.le_refl _) _).alloc (by simp) _).trans ((B1.out.mono (by simp <;> omega)).trans (b2.mono (by omega))))
  have hne : ¬ w1.heap.size = w.heap.size + 1 := by omega
  have hne' : ¬ w.heap.size + 1 = w1.heap.size := by omega
  have lt2 := Lib.hid (fun k hk => (K1.out.ltB k hk).2)
  have x1 := XB.out 1 _ rfl
  clear hw b2 K1 B1 OWN X0 CC
  generalize w1.heap.size = g at z1 p0 p1 p2 q0 q1 q2 z2 hne hne' lt2 ⊢
  by_cases h8 : zs.length ≤ 8
  rotate_left
  · have h8' : (8 : Int) < (zs.length : Int) := by omega
    have R := Lib.hid (show tiltOk zs i n = false from tilt_head_no (by simp [tiltHead, h8]))
    have R2 := Lib.hid (tilt_no R.out)
    go_wp2_with (go_at_call 44; refine (C0.out _ _ _ _).mono ?_; rintro e w' ⟨rfl, rfl⟩)
    obtain ⟨k0, k1, k2⟩ := cells_set3 (g := w.heap.size + 1) (u := .int .i64 H) (v := .slice A2 zs.length a2) (x := .slice C2 cs.length c2) d0 d1 d2
    refine bodyPost_ret (v := .tuple #[ctlV H (.slice A2 zs.length a2) (.slice C2 cs.length c2), .bool false]) (by simp [results, Try.results28, go_sem, k0, k1, k2, ctlV]) rfl ⟨_, _, by rw [R.out], by rw [R2.out]; exact pairK_done K2.out B2.out _ _ _⟩
  have h8' : ¬ (8 : Int) < (zs.length : Int) := by omega
  have hw1 : IntKind.i64.wrap ((zs.length : Int) - 1) = (zs.length : Int) - 1 := IntWalk.i64_in _ (by omega)
  cases g1 : inB i 0 ((zs.length : Int) - 1) with
  | false =>
    have R := Lib.hid (show tiltOk zs i n = false from tilt_head_no (by simp [tiltHead, g1]))
    have R2 := Lib.hid (tilt_no R.out)
    go_wp2_with (go_at_call 44; refine (C0.out _ _ _ _).mono ?_; rintro e w' ⟨rfl, rfl⟩)
    obtain ⟨k0, k1, k2⟩ := cells_set3 (g := w.heap.size + 1) (u := .int .i64 H) (v := .slice A2 zs.length a2) (x := .slice C2 cs.length c2) d0 d1 d2
    refine bodyPost_ret (v := .tuple #[ctlV H (.slice A2 zs.length a2) (.slice C2 cs.length c2), .bool false]) (by simp [results, Try.results28, go_sem, k0, k1, k2, ctlV]) rfl ⟨_, _, by rw [R.out], by rw [R2.out]; exact pairK_done K2.out B2.out _ _ _⟩
  | true =>
  cases g2 : inB n (-50) 50 with
  | false =>
    have R := Lib.hid (show tiltOk zs i n = false from tilt_head_no (by simp [tiltHead, g2]))
    have R2 := Lib.hid (tilt_no R.out)
    go_wp2_with (go_at_call 44; refine (C0.out _ _ _ _).mono ?_; rintro e w' ⟨rfl, rfl⟩)
    obtain ⟨k0, k1, k2⟩ := cells_set3 (g := w.heap.size + 1) (u := .int .i64 H) (v := .slice A2 zs.length a2) (x := .slice C2 cs.length c2) d0 d1 d2
    refine bodyPost_ret (v := .tuple #[ctlV H (.slice A2 zs.length a2) (.slice C2 cs.length c2), .bool false]) (by simp [results, Try.results28, go_sem, k0, k1, k2, ctlV]) rfl ⟨_, _, by rw [R.out], by rw [R2.out]; exact pairK_done K2.out B2.out _ _ _⟩
  | true =>
  have hin : 0 ≤ i ∧ i ≤ (zs.length : Int) - 1 := by simpa [inB] using g1
  have hn : -50 ≤ n ∧ n ≤ 50 := by simpa [inB] using g2
  have TH := Lib.hid (show tiltHead zs i n = true by simp [tiltHead, h8, g1, g2])
  go_wp2_with (go_at_call 44; refine (C0.out _ _ _ _).mono ?_; rintro e w' ⟨rfl, rfl⟩)
  clear g1 g2 h8'
  go_loopw [10] (fun iv wr => w2 = wr ∧ ∃ k : Nat, k ≤ zs.length ∧ iv = .int .i64 (k : Int) ∧ Hid ((zs.take k).all armB = true)) (fun iv _ => zs.length - (intOf iv).toNat)
  case atStart => exact ⟨rfl, 0, by omega, rfl, rfl⟩
  case round =>
    obtain ⟨rfl, k, hk, rfl, HA⟩ := hrel
    by_cases hlt : k < zs.length
    · obtain ⟨ga, _, e1, _, _, z0, _⟩ := KA.out.1.spot hlt
      simp only [Value.slice.injEq] at e1
      obtain ⟨rfl, em, rfl⟩ := e1
      clear em
      have hk0 : (0 : Int) ≤ (k : Int) := by omega
      have hk1 : (k : Int) < (zs.length : Int) := by omega
      have AM := Lib.hid (all_upto (p := armB) hlt)
      have NO := Lib.hid (fun hx => tilt_arm_no (i := i) (n := n) hlt hx)
      generalize zs[k] = x at z0 AM NO
      cases hx : armB x with
      | false =>
        unfold armB at hx
        have R := Lib.hid (show tiltOk zs i n = false from NO.out hx)
        have R2 := Lib.hid (tilt_no R.out)
        go_wp2_with (go_at_call 44; refine (C0.out _ _ _ _).mono ?_; rintro e w' ⟨rfl, rfl⟩)
        obtain ⟨k0, k1, k2⟩ := cells_set3 (g := w.heap.size + 1) (u := .int .i64 H) (v := .slice A2 zs.length a2) (x := .slice C2 cs.length c2) d0 d1 d2
        refine bodyPost_ret (v := .tuple #[ctlV H (.slice A2 zs.length a2) (.slice C2 cs.length c2), .bool false]) (by simp [results, Try.results28, go_sem, k0, k1, k2, ctlV]) rfl ⟨_, _, by rw [R.out], by rw [R2.out]; exact pairK_done K2.out B2.out _ _ _⟩
      | true =>
        have A2 := Lib.hid (show (zs.take (k + 1)).all armB = true by rw [AM.out, HA.out]; exact hx)
        unfold armB at hx
        go_wp2_with (go_at_call 44; refine (C0.out _ _ _ _).mono ?_; rintro e w' ⟨rfl, rfl⟩)
        exact ⟨⟨by trivial, k + 1, by omega, by go_num, A2⟩, by simp [intOf]; omega⟩
    · obtain rfl : k = zs.length := by omega
      rw [List.take_length] at HA
      obtain ⟨p, rfl⟩ := Int.eq_ofNat_of_zero_le hin.1
      obtain ⟨q, hq⟩ := Int.eq_ofNat_of_zero_le (show 0 ≤ (zs.length : Int) - 1 - (p : Int) by omega)
      have hpz : p < zs.length := by omega
      have hqz : q < zs.length := by omega
      have hw2 : IntKind.i64.wrap ((zs.length : Int) - 1 - (p : Int)) = (q : Int) := by rw [hq]; exact IntWalk.i64_in _ (by omega)
      by_cases hpq : q = p
      · have S1 := Lib.hid (show tiltSelf zs (p : Int) = true by unfold tiltSelf; rw [hq, hpq]; exact decide_eq_true rfl)
        have R := Lib.hid (show tiltOk zs (p : Int) n = true by unfold tiltOk; rw [TH.out, HA.out, S1.out]; rfl)
        have R2 := Lib.hid (show tiltZs zs (p : Int) n = zs by unfold tiltZs; rw [if_neg (by simp [S1.out])])
        have hpq' : ((q : Int) == (p : Int)) = true := by simp [hpq]
        go_wp2_with (go_at_call 44; refine (C0.out _ _ _ _).mono ?_; rintro e w' ⟨rfl, rfl⟩)
        obtain ⟨k0, k1, k2⟩ := cells_set3 (g := w.heap.size + 1) (u := .int .i64 H) (v := .slice A2 zs.length a2) (x := .slice C2 cs.length c2) d0 d1 d2
        refine bodyPost_ret (v := .tuple #[ctlV H (.slice A2 zs.length a2) (.slice C2 cs.length c2), .bool true]) (by simp [results, Try.results28, go_sem, k0, k1, k2, ctlV]) rfl ⟨_, _, by rw [R.out], by rw [R2.out]; exact pairK_done K2.out B2.out _ _ _⟩
      have hpq' : ((q : Int) == (p : Int)) = false := by rw [beq_eq_false_iff_ne]; omega
      have S1 := Lib.hid (show tiltSelf zs (p : Int) = false by unfold tiltSelf; rw [hq]; exact decide_eq_false (by omega))
      have TF := Lib.hid (show tiltFits zs (p : Int) n = (inB (zs[p] + n) (-50) 50 && inB (zs[q] - n) (-50) 50) by unfold tiltFits; rw [hq]; simp [hpz, hqz])
      have TZ := Lib.hid (show tiltOk zs (p : Int) n = true → tiltZs zs (p : Int) n = (zs.set p (zs[p] + n)).set q (zs[q] - n) from fun h => by unfold tiltZs; rw [if_pos ⟨h, S1.out⟩, hq]; simp [hpz, hqz])
      have TO := Lib.hid (show tiltOk zs (p : Int) n = tiltFits zs (p : Int) n by unfold tiltOk; rw [TH.out, HA.out, S1.out]; rfl)
      have rp : -50 ≤ zs[p] ∧ zs[p] ≤ 50 := by have := List.all_eq_true.1 HA.out zs[p] (List.getElem_mem hpz); simpa [armB, inB] using this
      have rq : -50 ≤ zs[q] ∧ zs[q] ≤ 50 := by have := List.all_eq_true.1 HA.out zs[q] (List.getElem_mem hqz); simpa [armB, inB] using this
      obtain ⟨ga, _, e1, _, lga, z0, _⟩ := KA.out.1.spot hpz
      simp only [Value.slice.injEq] at e1
      obtain ⟨rfl, em, rfl⟩ := e1
      clear em
      obtain ⟨_, _, e1, _, _, z3, _⟩ := KA.out.1.spot hqz
      simp only [Value.slice.injEq, Option.some.injEq, Addr.mk.injEq] at e1
      obtain ⟨⟨rfl, _⟩, em, ec⟩ := e1
      clear em ec
      generalize hzp : zs[p] = x at z0 rp TF TZ
      generalize hzq : zs[q] = y at z3 rq TF TZ
      have hp0 : (0 : Int) ≤ (p : Int) := by omega
      have hp1 : (p : Int) < (zs.length : Int) := by omega
      have hq0 : (0 : Int) ≤ (q : Int) := by omega
      have hq1 : (q : Int) < (zs.length : Int) := by omega
      have ea : IntKind.i64.wrap (x + n) = x + n := IntWalk.i64_in _ (by omega)
      have eb : IntKind.i64.wrap (y - n) = y - n := IntWalk.i64_in _ (by omega)
      cases g3 : inB (x + n) (-50) 50 with
      | false =>
        have R := Lib.hid (show tiltOk zs (p : Int) n = false from by rw [TO.out, TF.out, g3]; rfl)
        have R2 := Lib.hid (tilt_no R.out)
        go_wp2_with (go_at_call 44; refine (C0.out _ _ _ _).mono ?_; rintro e w' ⟨rfl, rfl⟩)
        obtain ⟨k0, k1, k2⟩ := cells_set3 (g := w.heap.size + 1) (u := .int .i64 H) (v := .slice A2 zs.length a2) (x := .slice C2 cs.length c2) d0 d1 d2
        refine bodyPost_ret (v := .tuple #[ctlV H (.slice A2 zs.length a2) (.slice C2 cs.length c2), .bool false]) (by simp [results, Try.results28, go_sem, k0, k1, k2, ctlV]) rfl ⟨_, _, by rw [R.out], by rw [R2.out]; exact pairK_done K2.out B2.out _ _ _⟩
      | true =>
      cases g4 : inB (y - n) (-50) 50 with
      | false =>
        have R := Lib.hid (show tiltOk zs (p : Int) n = false from by rw [TO.out, TF.out, g4]; simp)
        have R2 := Lib.hid (tilt_no R.out)
        go_wp2_with (go_at_call 44; refine (C0.out _ _ _ _).mono ?_; rintro e w' ⟨rfl, rfl⟩)
        obtain ⟨k0, k1, k2⟩ := cells_set3 (g := w.heap.size + 1) (u := .int .i64 H) (v := .slice A2 zs.length a2) (x := .slice C2 cs.length c2) d0 d1 d2
        refine bodyPost_ret (v := .tuple #[ctlV H (.slice A2 zs.length a2) (.slice C2 cs.length c2), .bool false]) (by simp [results, Try.results28, go_sem, k0, k1, k2, ctlV]) rfl ⟨_, _, by rw [R.out], by rw [R2.out]; exact pairK_done K2.out B2.out _ _ _⟩
      | true =>
        have R := Lib.hid (show tiltOk zs (p : Int) n = true by rw [TO.out, TF.out, g3, g4]; rfl)
        have R2 := Lib.hid (TZ.out R.out)
        obtain ⟨go, _, e1, hgo, lgo, y0, fy0⟩ := K2.out.1.spot hpz
        simp only [Value.slice.injEq] at e1
        obtain ⟨rfl, em, rfl⟩ := e1
        clear em
        have gga : ga < w.heap.size := (GA.out ga (.inl rfl)).2
        have ggo : go < g := lt2.out go (.inl rfl)
        obtain ⟨_, _, e1, _, _, y3, fy3⟩ := K2.out.1.spot hqz
        simp only [Value.slice.injEq, Option.some.injEq, Addr.mk.injEq] at e1
        obtain ⟨⟨rfl, _⟩, em, ec⟩ := e1
        clear em ec
        rw [hzp] at y0
        rw [hzq] at y3
        have n1 : ¬ go = g := by omega
        have n1' : ¬ g = go := by omega
        have n2 : ¬ go = w.heap.size + 1 := by omega
        have n2' : ¬ w.heap.size + 1 = go := by omega
        have n3 : ¬ go = w.heap.size := by omega
        have n3' : ¬ w.heap.size = go := by omega
        have n4 : ¬ go = ga := by omega
        have n4' : ¬ ga = go := by omega
        have n5 : ¬ p = q := by omega
        have SK := Lib.hid (show ∀ u : Value, (w2.setCell ⟨go, p, none⟩ u).cell? ⟨w.heap.size, 1, none⟩ = some (.slice (some ⟨ga, 0, none⟩) zs.length a) ∧ (w2.setCell ⟨go, p, none⟩ u).cell? ⟨g, 1, none⟩ = some (.slice (some ⟨go, 0, none⟩) zs.length a2) ∧ (w2.setCell ⟨go, p, none⟩ u).cell? ⟨ga, p, none⟩ = some (.int .i64 x) from fun u =>
          ⟨(World.cell?_setCell_other _ _ _ _ (by simp [n3])).trans x1, (World.cell?_setCell_other _ _ _ _ (by simp [n1])).trans p1, (World.cell?_setCell_other _ _ _ _ (by simp [n4])).trans z0⟩)
        go_wp2_with (go_at_call 44; refine (C0.out _ _ _ _).mono ?_; rintro e w' ⟨rfl, rfl⟩)
        go_region_held3 (fun W => W.cell? ⟨w.heap.size, 1, none⟩ = some (.slice (some ⟨ga, 0, none⟩) zs.length a) ∧ W.cell? ⟨g, 1, none⟩ = some (.slice (some ⟨go, 0, none⟩) zs.length a2) ∧ W.cell? ⟨ga, p, none⟩ = some (.int .i64 x))
          (first | exact ⟨x1, p1, z0⟩ | exact SK.out _) (fail)
        go_wp2_with fail
        clear SK
        have K3 := Lib.hid ((K2.out.store rfl p (x + n)).below ((Below.refl _ _).drew))
        generalize hw3 : (w2.setCell ⟨go, p, none⟩ (.int .i64 (x + n))).drew = w3 at K3 ⊢
        obtain ⟨T1, T2, T3⟩ := stored hw3.symm
        replace x1 := T1 _ _ (by simp [n3]) x1
        replace p0 := T1 _ _ (by simp [n1]) p0
        replace p1 := T1 _ _ (by simp [n1]) p1
        replace p2 := T1 _ _ (by simp [n1]) p2
        replace z3 := T1 _ _ (by simp [n4]) z3
        replace y3 := T1 _ _ (by simp [n5]) y3
        replace d0 := T1 _ _ (by simp [n2]) d0
        replace d1 := T1 _ _ (by simp [n2]) d1
        replace d2 := T1 _ _ (by simp [n2]) d2
        replace f0 := T2 _ f0
        replace f1 := T2 _ f1
        replace f2 := T2 _ f2
        replace fy3 := T2 _ fy3
        have B3 := Lib.hid (T3 _ _ B2.out (show w.heap.size ≤ go by omega))
        clear T1 T2 T3 hw3 z0 y0 fy0 K2 B2 q0 q1 q2
        have SK := Lib.hid (show ∀ u : Value, (w3.setCell ⟨go, q, none⟩ u).cell? ⟨w.heap.size, 1, none⟩ = some (.slice (some ⟨ga, 0, none⟩) zs.length a) ∧ (w3.setCell ⟨go, q, none⟩ u).cell? ⟨g, 1, none⟩ = some (.slice (some ⟨go, 0, none⟩) zs.length a2) ∧ (w3.setCell ⟨go, q, none⟩ u).cell? ⟨ga, q, none⟩ = some (.int .i64 y) from fun u =>
          ⟨(World.cell?_setCell_other _ _ _ _ (by simp [n3])).trans x1, (World.cell?_setCell_other _ _ _ _ (by simp [n1])).trans p1, (World.cell?_setCell_other _ _ _ _ (by simp [n4])).trans z3⟩)
        go_region_held3 (fun W => W.cell? ⟨w.heap.size, 1, none⟩ = some (.slice (some ⟨ga, 0, none⟩) zs.length a) ∧ W.cell? ⟨g, 1, none⟩ = some (.slice (some ⟨go, 0, none⟩) zs.length a2) ∧ W.cell? ⟨ga, q, none⟩ = some (.int .i64 y))
          (first | exact ⟨x1, p1, z3⟩ | exact SK.out _) (fail)
        clear SK
        have K4 := Lib.hid ((K3.out.store (by simp) q (y - n)).below ((Below.refl _ _).drew))
        generalize hw4 : (w3.setCell ⟨go, q, none⟩ (.int .i64 (y - n))).drew = w4 at K4 ⊢
        obtain ⟨T1, T2, T3⟩ := stored hw4.symm
        replace p0 := T1 _ _ (by simp [n1]) p0
        replace p1 := T1 _ _ (by simp [n1]) p1
        replace p2 := T1 _ _ (by simp [n1]) p2
        replace d0 := T1 _ _ (by simp [n2]) d0
        replace d1 := T1 _ _ (by simp [n2]) d1
        replace d2 := T1 _ _ (by simp [n2]) d2
        replace f0 := T2 _ f0
        replace f1 := T2 _ f1
        replace f2 := T2 _ f2
        have B4 := Lib.hid (T3 _ _ B3.out (show w.heap.size ≤ go by omega))
        clear T1 T2 T3 hw4 z3 y3 fy3 x1 K3 B3
        go_wp2
        obtain ⟨k0, k1, k2⟩ := cells_set3 (g := w.heap.size + 1) (u := .int .i64 H) (v := .slice (some ⟨go, 0, none⟩) zs.length a2) (x := .slice C2 cs.length c2) d0 d1 d2
        refine bodyPost_ret (v := .tuple #[ctlV H (.slice (some ⟨go, 0, none⟩) zs.length a2) (.slice C2 cs.length c2), .bool true]) (by simp [results, Try.results28, go_sem, k0, k1, k2, ctlV]) rfl ⟨_, _, by rw [R.out], by rw [R2.out]; exact pairK_done K4.out B4.out _ _ _⟩
end Go.Proofs.Ytigiechidcndpaa
