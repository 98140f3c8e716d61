/- The contract of the program's CountChanges. Condition: both rows of rows are the call's own. -/
import Derived.Test.YtanlfkkmnnjpeaaCncS
import Derived.Test.YtanlfkkmnnjpeaaChbI
namespace Go.Proofs.Ytanlfkkmnnjpeaa
set_option linter.unusedVariables false
set_option linter.unusedSimpArgs false
open Go.RowKit

set_option maxRecDepth 100000 in
set_option maxHeartbeats 3200000 in
theorem implCnc (v1 v2 : Value) (nt cs : List (List Int)) (b1 b2 : Nat) (w : World) (h1 : OwnR w b1 v1 nt) (h2 : OwnR w b2 v2 cs) (l1 : nt.length ≤ 1048576) (l2 : cs.length ≤ 1048576)
    (r1 : ∀ k (h : k < nt.length), nt[k].length ≤ 2000000) (r2 : ∀ k (h : k < cs.length), cs[k].length ≤ 2000000) :
    Calls Try.prog 14 #[v1, v2] w fun e w' => e = .returned (.int .i64 (countCh nt cs)) ∧ Below w.heap.size w w' := by
  obtain ⟨A1, c1, rfl⟩ := h1.slice
  obtain ⟨A2, c2, rfl⟩ := h2.slice
  have N := Lib.hid h1
  have C := Lib.hid h2
  have R1 := Lib.hid r1
  have R2 := Lib.hid r2
  clear h1 h2 r1 r2
  by_cases e1 : nt.length = cs.length
  rotate_left
  · have R := Lib.hid (show countCh nt cs = -1 by rw [countCh_is, decide_eq_false e1]; rfl)
    have d1 : ((nt.length : Int) == (cs.length : Int)) = false := by rw [beq_eq_false_iff_ne]; omega
    have d2 : ((nt.length : Int) != (cs.length : Int)) = true := by rw [bne_iff_ne]; omega
    clear e1 R1 R2 N C
    generalize nt.length = n1 at *
    generalize cs.length = n2 at *
    go_enter Try.func14, Try.ntmps14
    go_wp2
    go_ret
    exact ⟨by rw [R.out]; try rfl, Below.refl _ _⟩
  have d1 : ((nt.length : Int) == (cs.length : Int)) = true := by rw [e1]; simp
  have d2 : ((nt.length : Int) != (cs.length : Int)) = false := by rw [e1]; simp
  have E1 := Lib.hid e1
  have RN := Lib.hid (fun m (hm : m < nt.length) (h0 : 0 < m) (h : chAt nt cs m < 0) => (show countCh nt cs = -1 by
    rw [countCh_is, show (List.range nt.length).all (chFine nt cs) = false from List.all_eq_false.2 ⟨m, List.mem_range.2 hm, by unfold chFine; rw [decide_eq_false (by omega), decide_eq_false (by omega)]; simp⟩, Bool.and_false]
    rfl))
  have RY := Lib.hid (fun (h : ∀ m, 0 < m → m < nt.length → 0 ≤ chAt nt cs m) => (show countCh nt cs = sumCh nt cs nt.length by
    rw [countCh_is, decide_eq_true e1, show (List.range nt.length).all (chFine nt cs) = true from List.all_eq_true.2 fun m hm => by
      unfold chFine
      rcases Nat.eq_zero_or_pos m with q | q
      · rw [decide_eq_true q]; rfl
      · rw [decide_eq_true (h m q (List.mem_range.1 hm)), Bool.or_true]]
    rfl))
  have gR : ∀ (zss : List (List Int)) t (ht : t < zss.length), zss.getD t [] = zss[t] := fun zss t ht => by rw [List.getD_eq_getElem?_getD, List.getElem?_eq_getElem ht]; rfl
  have GR := Lib.hid gR
  have D1 := Lib.hid (fun k (h : k < nt.length) => (show (nt.getD k []).length ≤ 2000000 by rw [gR nt k h]; exact R1.out k h))
  have D2 := Lib.hid (fun k (h : k < cs.length) => (show (cs.getD k []).length ≤ 2000000 by rw [gR cs k h]; exact R2.out k h))
  have CX := Lib.hid (fun m (h0 : 0 < m) (hm : m < nt.length) => (show -1 ≤ chAt nt cs m ∧ chAt nt cs m ≤ 4000000000000 from changes_max (D1.out (m - 1) (by omega)) (D1.out m hm)))
  have SN := Lib.hid (fun m (h0 : 0 < m) => (show sumCh nt cs (m + 1) = sumCh nt cs m + chAt nt cs m by rw [sumCh, if_neg (by omega)]))
  have S1 := Lib.hid (show sumCh nt cs 1 = 0 from rfl)
  clear e1 gR
  go_enter Try.func14, Try.ntmps14
  go_wp2_with fail
  go_loopw [5, 6] (fun nv mv wr => ∃ (m : Nat) (s : Int), 0 < m ∧ (m ≤ nt.length ∨ m = 1) ∧ nv = .int .i64 s ∧ mv = .int .i64 (m : Int) ∧ Hid (s = sumCh nt cs m) ∧ Hid (0 ≤ s ∧ s ≤ 4000000000000 * (m : Int)) ∧ Hid (∀ i, 0 < i → i < m → 0 ≤ chAt nt cs i) ∧ Hid (Below w.heap.size w wr)) (fun _ mv _ => nt.length + 1 - (intOf mv).toNat)
  case atStart => exact ⟨1, 0, by omega, .inr rfl, rfl, rfl, S1, Lib.hid (by omega), Lib.hid (fun i h0 hi => absurd hi (by omega)), Lib.hid (Below.refl _ _)⟩
  case round =>
    obtain ⟨m, s, h0, hm, rfl, rfl, SM, SX, HF, BW⟩ := hrel
    by_cases hlt : m < nt.length
    rotate_left
    · have R := Lib.hid (show s = countCh nt cs by
        rw [RY.out (fun i hi hi2 => HF.out i hi (by omega)), SM.out]
        rcases hm with q | q
        · rw [show m = nt.length by omega]
        · rcases Nat.eq_zero_or_pos nt.length with e | e
          · rw [q, e]; rfl
          · rw [show m = nt.length by omega])
      have hm1 : ¬ (m : Int) < (nt.length : Int) := by omega
      clear SM SX
      go_wp2
      go_ret
      exact ⟨by rw [R.out]; try rfl, BW.out⟩
    have hm1 : (m : Int) < (nt.length : Int) := by omega
    obtain ⟨j, rfl⟩ : ∃ j, m = j + 1 := ⟨m - 1, by omega⟩
    have hj : j < nt.length := by omega
    have E := E1.out
    obtain ⟨g1, _, P1, d1_, f1, x1, -, p1⟩ := (N.out.below BW.out).spot hj
    simp only [Value.slice.injEq] at f1
    obtain ⟨rfl, -, -⟩ := f1
    obtain ⟨_, _, P2, d2_, f1, x2, -, p2⟩ := (N.out.below BW.out).spot hlt
    simp only [Value.slice.injEq, Option.some.injEq, Addr.mk.injEq] at f1
    obtain ⟨⟨rfl, _⟩, -, -⟩ := f1
    obtain ⟨g2, _, Q1, d3_, f1, y1, -, q1⟩ := (C.out.below BW.out).spot (k := j) (by omega)
    simp only [Value.slice.injEq] at f1
    obtain ⟨rfl, -, -⟩ := f1
    obtain ⟨_, _, Q2, d4_, f1, y2, -, q2⟩ := (C.out.below BW.out).spot (k := j + 1) (by omega)
    simp only [Value.slice.injEq, Option.some.injEq, Addr.mk.injEq] at f1
    obtain ⟨⟨rfl, _⟩, -, -⟩ := f1
    rw [← GR.out] at x1 x2 y1 y2 p1 p2 q1 q2
    have ca : chAt nt cs (j + 1) = changesB (nt.getD j []) (cs.getD j []) (nt.getD (j + 1) []) (cs.getD (j + 1) []) := rfl
    have cx := CX.out (j + 1) h0 hlt
    have SX2 := SX.out
    have SS := Lib.hid (SN.out (j + 1) h0)
    have CB := Lib.hid (fun W (hb : Below wr.heap.size wr W) => implChb _ _ _ _ (nt.getD j []) (cs.getD j []) (nt.getD (j + 1) []) (cs.getD (j + 1) []) _ _ _ _ W (p1.below hb) (q1.below hb) (p2.below hb) (q2.below hb) (D1.out j hj) (D2.out j (by omega)) (D1.out (j + 1) hlt) (D2.out (j + 1) (by omega)))
    have RNX := Lib.hid (RN.out (j + 1) hlt h0)
    have HFX := Lib.hid (fun (h : 0 ≤ chAt nt cs (j + 1)) => (show ∀ i, 0 < i → i < j + 1 + 1 → 0 ≤ chAt nt cs i from fun i hi hi2 => by
      rcases (by omega : i < j + 1 ∨ i = j + 1) with q | rfl
      · exact HF.out i hi q
      · exact h))
    rw [← ca] at CB
    have ej : ((j + 1 : Nat) : Int) - 1 = (j : Int) := by omega
    have ejw : IntKind.i64.wrap (((j + 1 : Nat) : Int) - 1) = (j : Int) := by rw [ej]; exact IntWalk.i64_in _ (by omega)
    have ej1 : IntKind.i64.wrap (j : Int) = (j : Int) := IntWalk.i64_in _ (by omega)
    have ej2 : IntKind.i64.wrap ((j : Int) + 1 - 1) = (j : Int) := by rw [IntWalk.i64_in _ (by omega)]; omega
    have hp0 : (0 : Int) ≤ (j : Int) + 1 := by omega
    have hp1 : (j : Int) + 1 < (nt.length : Int) := by omega
    have hp2 : (j : Int) + 1 < (cs.length : Int) := by omega
    have hj0 : (0 : Int) ≤ (j : Int) := by omega
    have hj1 : (j : Int) < (nt.length : Int) := by omega
    have hj2 : (j : Int) < (cs.length : Int) := by omega
    have hm2 : ((j + 1 : Nat) : Int) < (cs.length : Int) := by omega
    have hm0 : (0 : Int) ≤ ((j + 1 : Nat) : Int) := by omega
    have HM := Lib.hid (And.intro hm (And.intro h0 hlt))
    clear E p1 p2 q1 q2 ca hm h0
    generalize (nt.getD j []).length = n1 at x1 CB
    generalize (nt.getD (j + 1) []).length = n2 at x2 CB
    generalize (cs.getD j []).length = n3 at y1 CB
    generalize (cs.getD (j + 1) []).length = n4 at y2 CB
    generalize hca : chAt nt cs (j + 1) = ch at CB cx SS RNX HFX
    have XC := Lib.hid (show wr.cell? ⟨g1, j, none⟩ = some (.slice P1 n1 d1_) ∧ wr.cell? ⟨g1, j + 1, none⟩ = some (.slice P2 n2 d2_) ∧ wr.cell? ⟨g2, j, none⟩ = some (.slice Q1 n3 d3_) ∧ wr.cell? ⟨g2, j + 1, none⟩ = some (.slice Q2 n4 d4_) from ⟨x1, x2, y1, y2⟩)
    clear hca
    go_wp2_with fail
    go_region_held3 (fun W => W.cell? ⟨g1, j, none⟩ = some (.slice P1 n1 d1_) ∧ W.cell? ⟨g1, j + 1, none⟩ = some (.slice P2 n2 d2_) ∧ W.cell? ⟨g2, j, none⟩ = some (.slice Q1 n3 d3_) ∧ W.cell? ⟨g2, j + 1, none⟩ = some (.slice Q2 n4 d4_))
      (first | exact XC.out | exact X2.out)
      (first | (go_at_call 20; refine (CB.out _ (Below.refl _ _).drew).mono ?_; rintro e w2 ⟨rfl, b2⟩; have b3 := undrew b2; have X2 := Lib.hid (show _ ∧ _ ∧ _ ∧ _ from ⟨cell_below XC.out.1 b3, cell_below XC.out.2.1 b3, cell_below XC.out.2.2.1 b3, cell_below XC.out.2.2.2 b3⟩)))
    have B2 := Lib.hid (BW.out.trans ((undrew b2).mono BW.out.size))
    clear b2 b3 XC X2 CB x1 x2 y1 y2 N C
    have ew : IntKind.i64.wrap (s + ch) = s + ch := IntWalk.i64_in _ (by have := HM.out.2.2; omega)
    by_cases hn : ch < 0
    · have R := Lib.hid (RNX.out hn)
      clear SM
      go_wp2
      go_ret
      exact ⟨by rw [R.out]; try rfl, B2.out⟩
    · have H2 := Lib.hid (HFX.out (by omega))
      have N2 := Lib.hid (show s + ch = sumCh nt cs (j + 1 + 1) by rw [SS.out, SM.out])
      have M2 := Lib.hid (show 0 ≤ s + ch ∧ s + ch ≤ 4000000000000 * ((j + 1 + 1 : Nat) : Int) by omega)
      clear SM
      go_wp2
      exact ⟨⟨j + 1 + 1, s + ch, by omega, .inl (by have := HM.out.2.2; omega), rfl, by go_num, N2, M2, H2, B2⟩, by have := HM.out.2.2; simp [intOf]; omega⟩
end Go.Proofs.Ytanlfkkmnnjpeaa
