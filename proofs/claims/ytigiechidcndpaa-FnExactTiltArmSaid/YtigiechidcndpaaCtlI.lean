/- The contract of impl.ControlOk. Condition: the arms and the cords lie in rows of their own. -/
import Derived.Test.YtigiechidcndpaaCtlA
namespace Go.Proofs.Ytigiechidcndpaa
set_option linter.unusedVariables false
set_option linter.unusedSimpArgs false
open Go.RowKit

theorem ctl_arms_no {H : Int} {zs : List Int} {cs : List Lb} {J : Int} (h : armsB zs = false) : ctlOk H zs cs J = false := by
  unfold armsB at h
  by_cases h8 : zs.length ≤ 8
  · rw [decide_eq_true h8, Bool.true_and] at h
    unfold ctlOk
    rw [h]
    simp
  · exact ctl_head_no (by simp only [ctlHead, inB]; rw [decide_eq_false (show ¬ (1 ≤ (zs.length : Int) ∧ (zs.length : Int) ≤ 8) by omega)]; simp)
theorem hold_apart {cs : List Lb} {k : Nat} {j : Int} : holdB (cs.take k) j = false → (cs.take k).all (apartFrom j) = true := by
  intro h
  unfold holdB at h
  rw [List.any_eq_false] at h
  rw [List.all_eq_true]
  intro c hc
  have := h c hc
  unfold apartFrom
  simpa using this
theorem hold_near {cs : List Lb} {k : Nat} {j : Int} : holdB (cs.take k) j = true → (cs.take k).all (apartFrom j) = false := by
  intro h
  unfold holdB at h
  rw [List.any_eq_true] at h
  obtain ⟨c, hc, hj⟩ := h
  exact all_miss hc (by unfold apartFrom; simpa using hj)

set_option maxRecDepth 100000 in
set_option maxHeartbeats 3200000 in
theorem implCtl (H : Int) (va vc : Value) (zs : List Int) (cs : List Lb) (J : Int) (b : Nat) (w : World) (hown : OwnK w b va vc zs cs) (hz : zs.length ≤ 2000000) (hc : cs.length ≤ 2000000) :
    Calls Try.prog 15 #[ctlV H va vc, .int .i64 J] w fun e w' => e = .returned (.bool (ctlOk H zs cs J)) ∧ Below w.heap.size w w' := by
  obtain ⟨A, a, C, c, rfl, rfl⟩ := hown.slice
  have C0 := Lib.hid (fun v lo hi W => (inRange_any v lo hi W).mono fun e w' h => (show _ ∧ W = w' from ⟨h.1, h.2.symm⟩))
  have CA := Lib.hid (fun W h => (armsFit_any (.slice A zs.length a) zs b W h hz).mono fun e w' h => (show _ ∧ W = w' from ⟨h.1, h.2.symm⟩))
  have CF := Lib.hid (fun qa qb qn W => cordFits_any H A zs.length a (.slice C cs.length c) qa qb qn J W ⟨_, _, _, rfl⟩ hz)
  have CHo := Lib.hid (fun n j W h hn => holds_any C n c j cs cs.length c b W h hn hc C (.inr rfl))
  have BX := Lib.hid (ctl_facts (H := H) hown)
  clear hown
  unfold ctlV at CF ⊢
  cases e1 : inB H 0 500 with
  | false =>
    have R := Lib.hid (show ctlOk H zs cs J = false from ctl_head_no (by simp [ctlHead, e1]))
    go_enter Try.func15, Try.ntmps15
    go_wp2_with (go_at_call 34; refine (C0.out _ _ _ _).mono ?_; rintro e w' ⟨rfl, rfl⟩)
    go_ret
    exact ⟨by rw [R.out]; rfl, (Below.refl w.heap.size w).alloc (Nat.le_refl _) _⟩
  | true =>
  by_cases e2 : zs.length = 0
  · have R := Lib.hid (show ctlOk H zs cs J = false from ctl_head_no (by simp only [ctlHead, inB]; rw [e2, decide_eq_false (show ¬ (1 ≤ ((0 : Nat) : Int) ∧ ((0 : Nat) : Int) ≤ 8) by omega)]; simp))
    have e2' : ((zs.length : Int) == 0) = true := by simpa using e2
    go_enter Try.func15, Try.ntmps15
    go_wp2_with (go_at_call 34; refine (C0.out _ _ _ _).mono ?_; rintro e w' ⟨rfl, rfl⟩)
    go_ret
    exact ⟨by rw [R.out]; rfl, (Below.refl w.heap.size w).alloc (Nat.le_refl _) _⟩
  have e2' : ((zs.length : Int) == 0) = false := by rw [beq_eq_false_iff_ne]; omega
  cases e3 : armsB zs with
  | false =>
    have R := Lib.hid (show ctlOk H zs cs J = false from ctl_arms_no e3)
    rw [e3] at CA
    have OI := Lib.hid (BX.out _ (Below.refl _ _)).2.2.2.1.1
    go_enter Try.func15, Try.ntmps15
    go_wp2_with (first | (go_at_call 34; refine (C0.out _ _ _ _).mono ?_; rintro e w' ⟨rfl, rfl⟩) | (go_at_call 38; refine (CA.out _ OI.out).mono ?_; rintro e w' ⟨rfl, rfl⟩))
    go_ret
    exact ⟨by rw [R.out]; rfl, (Below.refl w.heap.size w).alloc (Nat.le_refl _) _⟩
  | true =>
  have h8 : zs.length ≤ 8 := by unfold armsB at e3; simp only [Bool.and_eq_true, decide_eq_true_eq] at e3; exact e3.1
  have ZA := Lib.hid (show (zs.take zs.length).all armB = true by unfold armsB at e3; simp only [Bool.and_eq_true, decide_eq_true_eq] at e3; rw [List.take_length]; exact e3.2)
  rw [e3] at CA
  have OI := Lib.hid (BX.out _ (Below.refl _ _)).2.2.2.1.1
  by_cases e4 : cs.length ≤ 12
  rotate_left
  · have R := Lib.hid (show ctlOk H zs cs J = false from ctl_head_no (by simp [ctlHead, e4]))
    have e4' : (12 : Int) < (cs.length : Int) := by omega
    go_enter Try.func15, Try.ntmps15
    go_wp2_with (first | (go_at_call 34; refine (C0.out _ _ _ _).mono ?_; rintro e w' ⟨rfl, rfl⟩) | (go_at_call 38; refine (CA.out _ OI.out).mono ?_; rintro e w' ⟨rfl, rfl⟩))
    go_ret
    exact ⟨by rw [R.out]; rfl, (Below.refl w.heap.size w).alloc (Nat.le_refl _) _⟩
  have e4' : ¬ (12 : Int) < (cs.length : Int) := by omega
  have HH := Lib.hid (show ctlHead H zs.length cs.length = true by simp only [ctlHead, e1, inB_yes (v := (zs.length : Int)) (lo := 1) (hi := 8) (by omega), decide_eq_true e4]; rfl)
  go_enter Try.func15, Try.ntmps15
  go_wp2_with (first | (go_at_call 34; refine (C0.out _ _ _ _).mono ?_; rintro e w' ⟨rfl, rfl⟩) | (go_at_call 38; refine (CA.out _ OI.out).mono ?_; rintro e w' ⟨rfl, rfl⟩))
  clear e1 e2 e2' e3 e4' OI CA
  go_loopw [30] (fun iv wr => ∃ k : Nat, k ≤ cs.length ∧ iv = .int .i64 (k : Int) ∧ Hid (Below (w.heap.size + 1) (w.alloc (.cells #[.int .i64 H, .slice A zs.length a, .slice C cs.length c] 27)) wr) ∧ Hid ((cs.take k).all (cordB zs.length J) = true) ∧ Hid (onceTo cs k = true)) (fun iv _ => cs.length - (intOf iv).toNat)
  case atStart => exact ⟨0, by omega, rfl, Lib.hid (Below.refl _ _), rfl, rfl⟩
  case round =>
    obtain ⟨k, hk, rfl, HB, HC, HO⟩ := hrel
    obtain ⟨x0, x1, x2, ok, bw⟩ := BX.out wr HB.out
    have OK := Lib.hid ok
    have BW := Lib.hid bw
    clear ok bw
    by_cases hlt : k < cs.length
    · obtain ⟨g, _, f1, _, lg, rg, _⟩ := OK.out.2.1.spot hlt
      simp only [Value.slice.injEq] at f1
      obtain ⟨rfl, em, rfl⟩ := f1
      clear em
      have r0 : wr.cell? ⟨g, k * 3, none⟩ = some (.int .i64 cs[k].a) := rg 0 _ rfl
      have r1 : wr.cell? ⟨g, k * 3 + 1, none⟩ = some (.int .i64 cs[k].b) := rg 1 _ rfl
      have r2 : wr.cell? ⟨g, k * 3 + 2, none⟩ = some (.int .i64 cs[k].n) := rg 2 _ rfl
      have hk0 : (0 : Int) ≤ (k : Int) := by omega
      have hk1 : (k : Int) < (cs.length : Int) := by omega
      have hk2 : (k : Int) ≤ (c : Int) := by
        rcases OK.out.2.1.2 with ⟨e, _⟩ | ⟨_, cap, _, e, _, _, h1, _⟩
        · simp at e
        · simp only [Value.slice.injEq] at e
          omega
      have hsz := HB.out.size
      simp only [World.size_alloc] at hsz
      have CM := Lib.hid (all_upto (p := cordB zs.length J) hlt)
      have OM := Lib.hid (once_more hlt)
      have NC := Lib.hid (fun hx => ctl_cord_no (H := H) (zs := zs) (J := J) hlt hx)
      have RO := Lib.hid (fun (hx : (cs.take k).all (apartFrom cs[k].b) = false) => (show ctlOk H zs cs J = false by
        have : onceTo cs cs.length = false := once_le (k := k + 1) hlt (by rw [once_more hlt, hx]; simp)
        unfold ctlOk; rw [this]; simp))
      clear rg
      generalize cs[k] = q at r0 r1 r2 CM OM NC RO
      obtain ⟨qa, qb, qn⟩ := q
      simp only at r0 r1 r2
      have KF := Lib.hid (show ∀ W, Below (wr.heap.size + 1) (wr.alloc (.cells #[.int .i64 qa, .int .i64 qb, .int .i64 qn] 55)) W →
          (W.cell? ⟨w.heap.size, 0, none⟩ = some (.int .i64 H) ∧ W.cell? ⟨w.heap.size, 1, none⟩ = some (.slice A zs.length a) ∧ W.cell? ⟨w.heap.size, 2, none⟩ = some (.slice (some ⟨g, 0, none⟩) cs.length c) ∧ W.cell? ⟨wr.heap.size, 0, none⟩ = some (.int .i64 qa) ∧ W.cell? ⟨wr.heap.size, 1, none⟩ = some (.int .i64 qb) ∧ W.cell? ⟨wr.heap.size, 2, none⟩ = some (.int .i64 qn)) ∧
            OwnC W b (.slice (some ⟨g, 0, none⟩) cs.length c) cs ∧ Below w.heap.size w W ∧ Below (w.heap.size + 1) (w.alloc (.cells #[.int .i64 H, .slice A zs.length a, .slice (some ⟨g, 0, none⟩) cs.length c] 27)) W from fun W hb => by
        have nb := (boxV_new wr [.int .i64 qa, .int .i64 qb, .int .i64 qn] 55).below (hb.mono (by simp))
        have hw := (HB.out.alloc hsz (.cells #[.int .i64 qa, .int .i64 qb, .int .i64 qn] 55)).trans (hb.mono (by omega))
        obtain ⟨y0, y1, y2, oy, by_⟩ := BX.out W hw
        exact ⟨⟨y0, y1, y2, nb 0 _ rfl, nb 1 _ rfl, nb 2 _ rfl⟩, oy.2.1, by_, hw⟩)
      cases g1 : cordB zs.length J ⟨qa, qb, qn⟩ with
      | false =>
        have R := Lib.hid (NC.out g1)
        obtain ⟨⟨y0, y1, y2, c0, c1, c2⟩, -, -, -⟩ := KF.out _ (Below.refl _ _)
        go_wp2_with fail
        refine wp_region_held_drew (S := (fun W => W.cell? ⟨w.heap.size, 0, none⟩ = some (.int .i64 H) ∧ W.cell? ⟨w.heap.size, 1, none⟩ = some (.slice A zs.length a) ∧ W.cell? ⟨w.heap.size, 2, none⟩ = some (.slice (some ⟨g, 0, none⟩) cs.length c) ∧ W.cell? ⟨wr.heap.size, 0, none⟩ = some (.int .i64 qa) ∧ W.cell? ⟨wr.heap.size, 1, none⟩ = some (.int .i64 qb) ∧ W.cell? ⟨wr.heap.size, 2, none⟩ = some (.int .i64 qn))) (by kernel_rfl) ⟨y0, y1, y2, c0, c1, c2⟩ (fun hHeld => ?_)
        refine wpAnyH_take (i := 0) (v := .agg #[.int .i64 H, .slice A zs.length a, .slice (some ⟨g, 0, none⟩) cs.length c]) rfl (by kernel_rfl) (by kernel_rfl) (by kernel_rfl) (fun _ _ _ h => h) (Or.inl ⟨by rfl, by intro W hSw; (try dsimp only at hSw); go_simp⟩) hHeld ?_
        try simp only [Act.put, List.getElem_toArray, List.getElem_cons_succ, List.getElem_cons_zero, List.setIfInBounds_toArray, List.set_cons_zero, List.set_cons_succ]
        refine wpAnyH_take (i := 1) (v := .agg #[.int .i64 qa, .int .i64 qb, .int .i64 qn]) rfl (by kernel_rfl) (by kernel_rfl) (by kernel_rfl) (fun _ _ _ h => h) (Or.inl ⟨by rfl, by intro W hSw; (try dsimp only at hSw); go_simp⟩) hHeld ?_
        try simp only [Act.put, List.getElem_toArray, List.getElem_cons_succ, List.getElem_cons_zero, List.setIfInBounds_toArray, List.set_cons_zero, List.set_cons_succ]
        refine wpAnyH_take (i := 2) (v := .int .i64 J) rfl (by kernel_rfl) (by kernel_rfl) (by kernel_rfl) (fun _ _ _ h => h) (Or.inl ⟨by rfl, by intro W hSw; (try dsimp only at hSw); go_simp⟩) hHeld ?_
        try simp only [Act.put, List.getElem_toArray, List.getElem_cons_succ, List.getElem_cons_zero, List.setIfInBounds_toArray, List.set_cons_zero, List.set_cons_succ]
        refine wpAnyH_ready (rs := [3]) (by kernel_rfl) (by simp) ?_
        refine AllReadyH.cons rfl (fun K hK => ?_) AllReadyH.nil
        go_simp
        refine (CF.out _ _ _ _).mono ?_
        rintro e w3 ⟨rfl, b3⟩
        rw [g1]
        replace b3 := undrew b3
        have F3 := Lib.hid (KF.out _ (b3.mono (by simp)))
        clear b3
        go_wp2_with fail
        refine hK.out _ _ F3.out.1 (fun hHeld => ?_)
        clear hK K
        try simp only [Act.put, List.getElem_toArray, List.getElem_cons_succ, List.getElem_cons_zero, List.setIfInBounds_toArray, List.set_cons_zero, List.set_cons_succ]
        refine wpAnyH_take (i := 4) (v := .bool true) rfl (by kernel_rfl) (by kernel_rfl) (by kernel_rfl) (fun _ _ _ h => h) (Or.inl ⟨by rfl, by intro W hSw; (try dsimp only at hSw); go_simp⟩) hHeld ?_
        try simp only [Act.put, List.getElem_toArray, List.getElem_cons_succ, List.getElem_cons_zero, List.setIfInBounds_toArray, List.set_cons_zero, List.set_cons_succ]
        refine wpAnyH_take (i := 5) (v := .bool true) rfl (by kernel_rfl) (by kernel_rfl) (by kernel_rfl) (fun _ _ _ h => h) (Or.inl ⟨by rfl, by intro W hSw; (try dsimp only at hSw); go_simp⟩) hHeld ?_
        try simp only [Act.put, List.getElem_toArray, List.getElem_cons_succ, List.getElem_cons_zero, List.setIfInBounds_toArray, List.set_cons_zero, List.set_cons_succ]
        refine wpAnyH_take (i := 6) (v := undef) rfl (by kernel_rfl) (by kernel_rfl) (by kernel_rfl) (fun _ _ _ h => h) (Or.inr ⟨by rfl, rfl⟩) hHeld ?_
        try simp only [Act.put, List.getElem_toArray, List.getElem_cons_succ, List.getElem_cons_zero, List.setIfInBounds_toArray, List.set_cons_zero, List.set_cons_succ]
        refine wpAnyH_take (i := 7) (v := undef) rfl (by kernel_rfl) (by kernel_rfl) (by kernel_rfl) (fun _ _ _ h => h) (Or.inr ⟨by rfl, rfl⟩) hHeld ?_
        try simp only [Act.put, List.getElem_toArray, List.getElem_cons_succ, List.getElem_cons_zero, List.setIfInBounds_toArray, List.set_cons_zero, List.set_cons_succ]
        refine wpAnyH_take (i := 8) (v := undef) rfl (by kernel_rfl) (by kernel_rfl) (by kernel_rfl) (fun _ _ _ h => h) (Or.inr ⟨by rfl, rfl⟩) hHeld ?_
        try simp only [Act.put, List.getElem_toArray, List.getElem_cons_succ, List.getElem_cons_zero, List.setIfInBounds_toArray, List.set_cons_zero, List.set_cons_succ]
        refine wpAnyH_take (i := 9) (v := undef) rfl (by kernel_rfl) (by kernel_rfl) (by kernel_rfl) (fun _ _ _ h => h) (Or.inr ⟨by rfl, rfl⟩) hHeld ?_
        try simp only [Act.put, List.getElem_toArray, List.getElem_cons_succ, List.getElem_cons_zero, List.setIfInBounds_toArray, List.set_cons_zero, List.set_cons_succ]
        refine wpAnyH_take (i := 10) (v := undef) rfl (by kernel_rfl) (by kernel_rfl) (by kernel_rfl) (fun _ _ _ h => h) (Or.inr ⟨by rfl, rfl⟩) hHeld ?_
        try simp only [Act.put, List.getElem_toArray, List.getElem_cons_succ, List.getElem_cons_zero, List.setIfInBounds_toArray, List.set_cons_zero, List.set_cons_succ]
        refine wpAnyH_take (i := 11) (v := undef) rfl (by kernel_rfl) (by kernel_rfl) (by kernel_rfl) (fun _ _ _ h => h) (Or.inr ⟨by rfl, rfl⟩) hHeld ?_
        try simp only [Act.put, List.getElem_toArray, List.getElem_cons_succ, List.getElem_cons_zero, List.setIfInBounds_toArray, List.set_cons_zero, List.set_cons_succ]
        refine wpAnyH_take (i := 12) (v := undef) rfl (by kernel_rfl) (by kernel_rfl) (by kernel_rfl) (fun _ _ _ h => h) (Or.inr ⟨by rfl, rfl⟩) hHeld ?_
        try simp only [Act.put, List.getElem_toArray, List.getElem_cons_succ, List.getElem_cons_zero, List.setIfInBounds_toArray, List.set_cons_zero, List.set_cons_succ]
        refine wpAnyH_take (i := 13) (v := .bool true) rfl (by kernel_rfl) (by kernel_rfl) (by kernel_rfl) (fun _ _ _ h => h) (Or.inl ⟨by rfl, by intro W hSw; (try dsimp only at hSw); go_simp⟩) hHeld ?_
        try simp only [Act.put, List.getElem_toArray, List.getElem_cons_succ, List.getElem_cons_zero, List.setIfInBounds_toArray, List.set_cons_zero, List.set_cons_succ]
        refine wpAnyH_done (by kernel_rfl) ?_ _
        go_wp2
        go_ret
        exact ⟨by rw [R.out]; rfl, F3.out.2.2.1⟩
      | true =>
        have C2 := Lib.hid (show (cs.take (k + 1)).all (cordB zs.length J) = true by rw [CM.out, HC.out, g1]; rfl)
        cases g2 : holdB (cs.take k) qb with
        | true =>
          have R := Lib.hid (RO.out (hold_near g2))
          obtain ⟨⟨y0, y1, y2, c0, c1, c2⟩, -, -, -⟩ := KF.out _ (Below.refl _ _)
          go_wp2_with fail
          go_region_held3 (fun W => W.cell? ⟨w.heap.size, 0, none⟩ = some (.int .i64 H) ∧ W.cell? ⟨w.heap.size, 1, none⟩ = some (.slice A zs.length a) ∧ W.cell? ⟨w.heap.size, 2, none⟩ = some (.slice (some ⟨g, 0, none⟩) cs.length c) ∧ W.cell? ⟨wr.heap.size, 0, none⟩ = some (.int .i64 qa) ∧ W.cell? ⟨wr.heap.size, 1, none⟩ = some (.int .i64 qb) ∧ W.cell? ⟨wr.heap.size, 2, none⟩ = some (.int .i64 qn))
            (first | exact ⟨y0, y1, y2, c0, c1, c2⟩ | exact F3.out.1 | exact F4.out.1) (first | (go_at_call 39; refine (CF.out _ _ _ _).mono ?_; rintro e w3 ⟨rfl, b3⟩; rw [g1]; replace b3 := undrew b3; have F3 := Lib.hid (KF.out _ (b3.mono (by simp))); have B3 := Lib.hid b3; clear b3) | (go_at_call 37; (with_reducible refine (CHo.out k qb _ ?_ (by omega)).mono ?_); (exact F3.out.2.1); rintro e w4 ⟨rfl, b4⟩; rw [g2]; have F4 := Lib.hid (KF.out _ ((B3.out.mono (by simp)).trans (b4.mono (by have := B3.out.size; simp at this; omega)))); clear b4))
          all_goals
            go_wp2
            go_ret
            exact ⟨by rw [R.out]; rfl, F4.out.2.2.1⟩
        | false =>
          have O2 := Lib.hid (show onceTo cs (k + 1) = true by rw [OM.out, HO.out, hold_apart g2]; rfl)
          obtain ⟨⟨y0, y1, y2, c0, c1, c2⟩, -, -, -⟩ := KF.out _ (Below.refl _ _)
          go_wp2_with fail
          go_region_held3 (fun W => W.cell? ⟨w.heap.size, 0, none⟩ = some (.int .i64 H) ∧ W.cell? ⟨w.heap.size, 1, none⟩ = some (.slice A zs.length a) ∧ W.cell? ⟨w.heap.size, 2, none⟩ = some (.slice (some ⟨g, 0, none⟩) cs.length c) ∧ W.cell? ⟨wr.heap.size, 0, none⟩ = some (.int .i64 qa) ∧ W.cell? ⟨wr.heap.size, 1, none⟩ = some (.int .i64 qb) ∧ W.cell? ⟨wr.heap.size, 2, none⟩ = some (.int .i64 qn))
            (first | exact ⟨y0, y1, y2, c0, c1, c2⟩ | exact F3.out.1 | exact F4.out.1) (first | (go_at_call 39; refine (CF.out _ _ _ _).mono ?_; rintro e w3 ⟨rfl, b3⟩; rw [g1]; replace b3 := undrew b3; have F3 := Lib.hid (KF.out _ (b3.mono (by simp))); have B3 := Lib.hid b3; clear b3) | (go_at_call 37; (with_reducible refine (CHo.out k qb _ ?_ (by omega)).mono ?_); (exact F3.out.2.1); rintro e w4 ⟨rfl, b4⟩; rw [g2]; have F4 := Lib.hid (KF.out _ ((B3.out.mono (by simp)).trans (b4.mono (by have := B3.out.size; simp at this; omega)))); clear b4))
          all_goals
            go_wp2
            exact ⟨⟨k + 1, by omega, by go_num, Lib.hid F4.out.2.2.2, C2, O2⟩, by simp [intOf]; omega⟩
    · obtain rfl : k = cs.length := by omega
      have R := Lib.hid (show ctlOk H zs cs J = true from ctl_yes HH.out ZA.out HC.out HO.out)
      go_wp2
      go_ret
      exact ⟨by rw [R.out]; rfl, BW.out⟩
end Go.Proofs.Ytigiechidcndpaa
