/- The contract of impl.PullsOf. Condition: the arms and the cords lie in rows of their own. -/
import Derived.Test.YtigiechidcndpaaCtlI
import Derived.Test.YtigiechidcndpaaRepI
namespace Go.Proofs.Ytigiechidcndpaa
set_option linter.unusedVariables false
open Go.RowKit

theorem ownI_one (w : World) (base : Nat) (z : Int) (hb : base ≤ w.heap.size) : OwnI (w.alloc (.cells #[.int .i64 z] 3)) base (.slice (some ⟨w.heap.size, 0, none⟩) 1 1) [z] :=
  ⟨rfl, .inr ⟨w.heap.size, 1, #[.int .i64 z], rfl, hb, heap_alloc_new w _, Nat.le_refl _, by simp only [maxLen]; omega, rfl, rfl⟩⟩

set_option maxRecDepth 100000 in
set_option maxHeartbeats 3200000 in
theorem implPullsOf (H : Int) (va vc : Value) (zs : List Int) (cs : List Lb) (J : Int) (b : Nat) (w : World) (hown : OwnK w b va vc zs cs) (hz : zs.length ≤ 2000000) (hc : cs.length ≤ 2000000) :
    Calls Try.prog 11 #[ctlV H va vc, .int .i64 J] w (IntsPost w (pullsOf H zs cs J)) := by
  have CS := Lib.hid (fun W h => implCtl H va vc zs cs J b W h hz hc)
  obtain ⟨A, a, C, c, rfl, rfl⟩ := hown.slice
  have OWN := Lib.hid hown
  have BX := Lib.hid (ctl_facts (H := H) hown)
  have C0 := Lib.hid (fun v lo hi W => (inRange_any v lo hi W).mono fun e w' h => (show _ ∧ W = w' from ⟨h.1, h.2.symm⟩))
  clear hown
  unfold ctlV at CS ⊢
  cases hok : ctlOk H zs cs J with
  | false =>
    have R := Lib.hid (show pullsOf H zs cs J = [] by unfold pullsOf; rw [if_neg (by simp [hok])])
    rw [hok] at CS
    clear hok
    go_enter Try.func11, Try.ntmps11
    go_wp2_with fail
    refine (CS.out _ (OWN.out.alloc _)).mono ?_
    rintro e w1 ⟨rfl, b1⟩
    have B1 := Lib.hid (((Below.refl w.heap.size w).alloc (Nat.le_refl _) _).trans (b1.mono (by simp)))
    clear b1
    go_wp2
    go_ret
    exact ⟨_, rfl, by rw [R.out]; exact ⟨rfl, .inl ⟨rfl, rfl⟩⟩, B1.out⟩
  | true =>
  by_cases hj : 1 ≤ J ∧ J ≤ 12
  rotate_left
  · have R := Lib.hid (show pullsOf H zs cs J = [] by unfold pullsOf; rw [if_neg (by simp [hj])])
    have e1 := inB_no hj
    rw [hok] at CS
    clear hok hj
    go_enter Try.func11, Try.ntmps11
    go_wp2_with fail
    refine (CS.out _ (OWN.out.alloc _)).mono ?_
    rintro e w1 ⟨rfl, b1⟩
    have B1 := Lib.hid (((Below.refl w.heap.size w).alloc (Nat.le_refl _) _).trans (b1.mono (by simp)))
    clear b1
    go_wp2_with (go_at_call 34; refine (C0.out _ _ _ _).mono ?_; rintro e w' ⟨rfl, rfl⟩)
    go_ret
    exact ⟨_, rfl, by rw [R.out]; exact ⟨rfl, .inl ⟨rfl, rfl⟩⟩, B1.out⟩
  obtain ⟨k, rfl⟩ := Int.eq_ofNat_of_zero_le (show 0 ≤ J by omega)
  have R := Lib.hid (show pullsOf H zs cs (k : Int) = pullsTo H zs cs k cs.length by unfold pullsOf; rw [if_pos ⟨hok, hj⟩]; rfl)
  have e1 := inB_yes hj
  have PT := Lib.hid (ctl_parts hok)
  rw [hok] at CS
  have hm1 : 1 ≤ k := by omega
  have hm12 : k ≤ 12 := by omega
  have CR := Lib.hid (fun v b W h => repeat_any k hm1 hm12 v (-1) b W h)
  clear hok hj
  go_enter Try.func11, Try.ntmps11
  go_wp2_with fail
  refine (CS.out _ (OWN.out.alloc _)).mono ?_
  rintro e w1 ⟨rfl, b1⟩
  have B1 := Lib.hid (show Below (w.heap.size + 1) (w.alloc (.cells #[.int .i64 H, .slice A zs.length a, .slice C cs.length c] 27)) w1 from b1.mono (by simp))
  have z1 := b1.size
  simp only [World.size_alloc] at z1
  clear b1
  go_wp2_with (first | (go_at_call 34; refine (C0.out _ _ _ _).mono ?_; rintro e w' ⟨rfl, rfl⟩) | (go_at_call 35; refine (CR.out _ (w.heap.size + 1) _ ?_).mono ?_; (exact ownI_one _ _ _ z1); rintro e w2 ⟨vp, rfl, o2, b2⟩; have x2 := (BX.out w2 ((B1.out.alloc z1 _).trans (b2.mono (by simp; omega)))).2.2.1; have B2 := Lib.hid ((B1.out.alloc z1 _).trans (b2.mono (by simp; omega))); have HO2 := Lib.hid (o2.mono (by simp; omega : w.heap.size + 1 ≤ _)); clear o2 b2))
  clear e1
  obtain ⟨g, cv, rfl, hgB, _, _, _⟩ := HO2.out.spot (k := 0) (by rw [List.length_replicate]; omega)
  rw [List.length_replicate] at HO2 ⊢
  have HO := Lib.hid (show OwnI w2 (w.heap.size + 1) (.slice (some ⟨g, 0, none⟩) k cv) (pullsTo H zs cs k 0) from HO2.out)
  have HB := B2
  clear HO2 B2 x2
  go_loopw [23] (fun iv wr => ∃ i : Nat, i ≤ cs.length ∧ iv = .int .i64 (i : Int) ∧ Hid (OwnI wr (w.heap.size + 1) (.slice (some ⟨g, 0, none⟩) k cv) (pullsTo H zs cs k i)) ∧ Hid (Below (w.heap.size + 1) (w.alloc (.cells #[.int .i64 H, .slice A zs.length a, .slice C cs.length c] 27)) wr)) (fun iv _ => cs.length - (intOf iv).toNat)
  case atStart => exact ⟨0, by omega, rfl, HO, HB⟩
  case round =>
    clear HO HB
    obtain ⟨i, hi, rfl, HO, HB⟩ := hrel
    have HX := Lib.hid (BX.out _ HB.out)
    have x2 := HX.out.2.2.1
    by_cases hlt' : i < cs.length
    · obtain ⟨gc, _, f1, _, lg, rg, _⟩ := HX.out.2.2.2.1.2.1.spot hlt'
      simp only [Value.slice.injEq] at f1
      obtain ⟨rfl, em, rfl⟩ := f1
      clear em
      have r0 := rg 0 _ rfl
      have r1 := rg 1 _ rfl
      have r2 := rg 2 _ rfl
      obtain ⟨⟨a0, a1⟩, ⟨q0, q1⟩, n0, n1⟩ := PT.out.2.2.2.2.1 i hlt'
      obtain ⟨p, hp⟩ := Int.eq_ofNat_of_zero_le a0
      obtain ⟨q, hq⟩ := Int.eq_ofNat_of_zero_le q0
      have hpz : p < zs.length := by omega
      have hqm : q < k := by omega
      have zr := PT.out.2.2.2.1 p hpz
      have hr := PT.out.1
      have MORE := Lib.hid (pullsTo_more (H := H) (n := k) hlt' hq hp hpz)
      obtain ⟨ga, _, f2, _, la, z0, _⟩ := HX.out.2.2.2.1.1.spot hpz
      simp only [Value.slice.injEq] at f2
      obtain ⟨rfl, em, rfl⟩ := f2
      clear em
      have ha := (World.ownsRow.lt HX.out.2.2.2.1.1 ga rfl)
      have PL := pullsTo_len H zs cs k i
      obtain ⟨go, _, f3, hgo, lo, u0, f0⟩ := HO.out.spot (k := q) (by rw [PL]; exact hqm)
      simp only [Value.slice.injEq, Option.some.injEq, Addr.mk.injEq] at f3
      obtain ⟨⟨rfl, _⟩, em, ec⟩ := f3
      clear em ec
      rw [hp] at r0
      rw [hq] at r1
      generalize cs[i].n = d at r2 n0 n1 MORE
      generalize zs[p] = z at z0 zr MORE
      generalize (pullsTo H zs cs k i)[q]'(by rw [PL]; exact hqm) = u at u0
      have gca : ga < w.heap.size := (OWN.out.1.lt ga rfl).2
      have gcc : gc < w.heap.size := (OWN.out.2.1.lt gc rfl).2
      have hmx : (if H + z - d < 0 then 0 else H + z - d) = max 0 (H + z - d) := by split <;> omega
      have st := HO.out.set PL.symm q (max 0 (H + z - d))
      rw [← MORE.out, ← hmx] at st
      have ST := Lib.hid (show _ ∧ Below _ _ _ from ⟨st.1.alloc (.cells #[.int .i64 (p : Int), .int .i64 (q : Int), .int .i64 d] 55), (HB.out.grown st.2 (by simpa using HB.out.size) (by simpa using hgo)).alloc (by simpa using HB.out.size) (.cells #[.int .i64 (p : Int), .int .i64 (q : Int), .int .i64 d] 55)⟩)
      have SK := Lib.hid (show ∀ u : Value, _ ∧ _ ∧ _ ∧ _ ∧ _ ∧ _ from fun u => ⟨(elder ((World.cell?_setCell_other wr ⟨g, q, none⟩ _ u (by intro e; have := congrArg Addr.block e; simp at this; omega)).trans HX.out.1)).1 (.cells #[.int .i64 (p : Int), .int .i64 (q : Int), .int .i64 d] 55),
        (elder ((World.cell?_setCell_other wr ⟨g, q, none⟩ _ u (by intro e; have := congrArg Addr.block e; simp at this; omega)).trans HX.out.2.1)).1 (.cells #[.int .i64 (p : Int), .int .i64 (q : Int), .int .i64 d] 55),
        (boxV_new (wr.setCell ⟨g, q, none⟩ u) [.int .i64 (p : Int), .int .i64 (q : Int), .int .i64 d] 55 0 _ rfl), (boxV_new (wr.setCell ⟨g, q, none⟩ u) [.int .i64 (p : Int), .int .i64 (q : Int), .int .i64 d] 55 1 _ rfl), (boxV_new (wr.setCell ⟨g, q, none⟩ u) [.int .i64 (p : Int), .int .i64 (q : Int), .int .i64 d] 55 2 _ rfl),
        (elder ((World.cell?_setCell_other wr ⟨g, q, none⟩ _ u (by intro e; have := congrArg Addr.block e; simp at this; omega)).trans z0)).1 (.cells #[.int .i64 (p : Int), .int .i64 (q : Int), .int .i64 d] 55)⟩)
      simp only [World.size_setCell] at SK
      have hwr := HB.out.size
      simp only [World.size_alloc] at hwr
      have x0 := (elder HX.out.1).1 (.cells #[.int .i64 (p : Int), .int .i64 (q : Int), .int .i64 d] 55)
      have x1 := (elder HX.out.2.1).1 (.cells #[.int .i64 (p : Int), .int .i64 (q : Int), .int .i64 d] 55)
      have z0 := (elder z0).1 (.cells #[.int .i64 (p : Int), .int .i64 (q : Int), .int .i64 d] 55)
      have u0 := (elder u0).1 (.cells #[.int .i64 (p : Int), .int .i64 (q : Int), .int .i64 d] 55)
      have r0 : wr.cell? ⟨gc, i * 3, none⟩ = some (.int .i64 (p : Int)) := r0
      have hp0 : (0 : Int) ≤ (p : Int) := by omega
      have hp1 : (p : Int) < (zs.length : Int) := by omega
      have hq0 : (0 : Int) ≤ (q : Int) := by omega
      have hq1 : (q : Int) < (k : Int) := by omega
      have hi0' : (0 : Int) ≤ (i : Int) := by omega
      have hi1 : (i : Int) < (cs.length : Int) := by omega
      have e1 : IntKind.i64.wrap (H + z) = H + z := IntWalk.i64_in _ (by omega)
      have e2 : IntKind.i64.wrap (H + z - d) = H + z - d := IntWalk.i64_in _ (by omega)
      clear hp hq a0 a1 q0 q1 rg st HX MORE ha hmx
      go_wp2_with fail
      go_region_held3 (fun W => W.cell? ⟨w.heap.size, 0, none⟩ = some (.int .i64 H) ∧ W.cell? ⟨w.heap.size, 1, none⟩ = some (.slice (some ⟨ga, 0, none⟩) zs.length a) ∧ W.cell? ⟨wr.heap.size, 0, none⟩ = some (.int .i64 (p : Int)) ∧ W.cell? ⟨wr.heap.size, 1, none⟩ = some (.int .i64 (q : Int)) ∧ W.cell? ⟨wr.heap.size, 2, none⟩ = some (.int .i64 d) ∧ W.cell? ⟨ga, p, none⟩ = some (.int .i64 z))
        (first | exact ⟨x0, x1, by simp [go_sem], by simp [go_sem], by simp [go_sem], z0⟩ | exact SK.out _) (fail)
      go_wp2
      exact ⟨⟨i + 1, by omega, by go_num, Lib.hid ST.out.1, Lib.hid ST.out.2.drew⟩, by simp [intOf]; omega⟩
    · obtain rfl : i = cs.length := by omega
      have F := Lib.hid HX.out.2.2.2.2
      clear HX
      go_wp2
      go_ret
      exact ⟨_, rfl, by rw [R.out]; exact HO.out.mono (by omega), F.out⟩
end Go.Proofs.Ytigiechidcndpaa
