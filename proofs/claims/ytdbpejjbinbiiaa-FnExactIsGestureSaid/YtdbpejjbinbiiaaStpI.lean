/- The contracts of impl.areHeights and impl.StepSize. Condition: both rows of numbers are rows of their own. -/
import Derived.Test.YtdbpejjbinbiiaaGesM
import Derived.BigQuiet
import Derived.Deep.RegionHeld3
namespace Go.Proofs.Ytdbpejjbinbiiaa
set_option linter.unusedVariables false
open Go.RowKit

theorem heights_any (v : Value) (zs : List Int) (b : Nat) (w : World) (h : OwnI w b v zs) (hl : zs.length ≤ 2000000) :
    Calls Try.prog 43 #[v] w fun e w' => e = .returned (.bool (decide (zs.length ≤ 12) && allIn (-2000) 2000 zs)) ∧ w' = w := by
  have C0 := Lib.hid ((allIn_any v zs (-2000) 2000 b w h hl).mono fun e w' h => (show _ ∧ w = w' from ⟨h.1, h.2.symm⟩))
  obtain ⟨P, c, rfl⟩ := h.slice
  clear h
  by_cases h12 : zs.length ≤ 12
  · rw [decide_eq_true h12, Bool.true_and]
    have h1 : (zs.length : Int) ≤ 12 := by omega
    generalize allIn (-2000) 2000 zs = r at C0
    go_enter Try.func43, Try.ntmps43
    go_wp2_with (go_at_call 64; refine C0.out.mono ?_; rintro e w' ⟨rfl, rfl⟩)
    go_ret
    exact ⟨rfl, rfl⟩
  · rw [decide_eq_false h12, Bool.false_and]
    have h1 : ¬ (zs.length : Int) ≤ 12 := by omega
    go_enter Try.func43, Try.ntmps43
    go_wp2
    go_ret
    exact ⟨rfl, rfl⟩

set_option maxRecDepth 100000 in
set_option maxHeartbeats 1600000 in
theorem implStep (v1 v2 : Value) (ps qs : List Int) (b1 b2 : Nat) (w : World) (h1 : OwnI w b1 v1 ps) (h2 : OwnI w b2 v2 qs) (hp : ps.length ≤ 2000000) (hq : qs.length ≤ 2000000) :
    Calls Try.prog 12 #[v1, v2] w fun e w' => e = .returned (.int .i64 (stepSize ps qs)) ∧ Below w.heap.size w w' := by
  have CP := Lib.hid ((heights_any v1 ps b1 w h1 hp).mono fun e w' h => (show _ ∧ w = w' from ⟨h.1, h.2.symm⟩))
  have CQ := Lib.hid ((heights_any v2 qs b2 w h2 hq).mono fun e w' h => (show _ ∧ w = w' from ⟨h.1, h.2.symm⟩))
  obtain ⟨P, c, rfl⟩ := h1.slice
  obtain ⟨Q, d, rfl⟩ := h2.slice
  have HP := Lib.hid h1
  have HQ := Lib.hid h2
  clear h1 h2
  by_cases hl : ps.length = qs.length
  rotate_left
  · have R := Lib.hid (step_no (ps := ps) (qs := qs) (by unfold pairOk; rw [decide_eq_false hl]; rfl))
    have hne : ((ps.length : Int) != (qs.length : Int)) = true := by simp; omega
    clear hl
    go_enter Try.func12, Try.ntmps12
    go_wp2
    go_ret
    exact ⟨by rw [R.out]; rfl, Below.refl _ _⟩
  have hne : ((ps.length : Int) != (qs.length : Int)) = false := by simp; omega
  cases hph : (decide (ps.length ≤ 12) && allIn (-2000) 2000 ps) with
  | false =>
    have R := Lib.hid (step_no (ps := ps) (qs := qs) (by unfold pairOk; rw [decide_eq_true hl, Bool.true_and, ← Bool.and_assoc, hph]; rfl))
    rw [hph] at CP
    clear hl hph
    go_enter Try.func12, Try.ntmps12
    go_wp2_with (go_at_call 43; refine CP.out.mono ?_; rintro e w' ⟨rfl, rfl⟩)
    go_ret
    exact ⟨by rw [R.out]; rfl, Below.refl _ _⟩
  | true =>
  cases hqh : (decide (qs.length ≤ 12) && allIn (-2000) 2000 qs) with
  | false =>
    have R := Lib.hid (step_no (ps := ps) (qs := qs) (by
      unfold pairOk
      rw [Bool.and_eq_true, decide_eq_true_eq] at hph
      rw [decide_eq_true hl, decide_eq_true hph.1, hph.2]
      rw [decide_eq_true (by omega), Bool.true_and] at hqh
      rw [hqh]
      rfl))
    rw [hph] at CP
    rw [hqh] at CQ
    clear hl hph hqh
    go_enter Try.func12, Try.ntmps12
    go_wp2_with (go_at_call 43; first | ((with_reducible refine CP.out.mono ?_); rintro e w' ⟨rfl, rfl⟩) | ((with_reducible refine CQ.out.mono ?_); rintro e w' ⟨rfl, rfl⟩))
    go_ret
    exact ⟨by rw [R.out]; rfl, Below.refl _ _⟩
  | true =>
  have HO := Lib.hid (show pairOk ps qs = true by
    rw [Bool.and_eq_true, decide_eq_true_eq] at hph hqh
    exact pair_of hl hph.1 hph.2 hqh.2)
  rw [hph] at CP
  rw [hqh] at CQ
  have HL := Lib.hid hl
  clear hl hph hqh
  go_enter Try.func12, Try.ntmps12
  go_wp2_with (go_at_call 43; first | ((with_reducible refine CP.out.mono ?_); rintro e w' ⟨rfl, rfl⟩) | ((with_reducible refine CQ.out.mono ?_); rintro e w' ⟨rfl, rfl⟩))
  clear CP CQ
  go_loopw [5, 25] (fun nv iv wr => ∃ k : Nat, k ≤ ps.length ∧ iv = .int .i64 (k : Int) ∧ nv = .int .i64 (stepTo ps qs k) ∧ Hid (Below w.heap.size w wr)) (fun _ iv _ => ps.length - (intOf iv).toNat)
  case atStart => exact ⟨0, by omega, rfl, rfl, Lib.hid (Below.refl _ _)⟩
  case round =>
    obtain ⟨k, hk, rfl, rfl, BW⟩ := hrel
    by_cases hlt : k < ps.length
    · have hlq : k < qs.length := by rw [← HL.out]; exact hlt
      obtain ⟨g, _, f1, _, _, z0, _⟩ := (HP.out.below BW.out).spot hlt
      simp only [Value.slice.injEq] at f1
      obtain ⟨rfl, em, rfl⟩ := f1
      clear em
      obtain ⟨gq, _, f2, _, _, z1, _⟩ := (HQ.out.below BW.out).spot hlq
      simp only [Value.slice.injEq] at f2
      obtain ⟨rfl, em, rfl⟩ := f2
      clear em
      have hk0 : (0 : Int) ≤ (k : Int) := by omega
      have hk1 : (k : Int) < (ps.length : Int) := by omega
      have hk2 : (k : Int) < (qs.length : Int) := by omega
      have hxr := pair_p HO.out hlt
      have hyr := pair_q HO.out hlq
      have ST := Lib.hid (stepTo_more hlt hlq)
      generalize ps[k] = x at z0 ST hxr
      generalize qs[k] = y at z1 ST hyr
      generalize stepTo ps qs k = t at ST
      clear hlt hlq
      have e1 : IntKind.i64.wrap (x - y) = x - y := IntWalk.i64_in _ (by omega)
      have e2 : IntKind.i64.wrap (-(x - y)) = -(x - y) := IntWalk.i64_in _ (by omega)
      go_wp2
      go_quiet (fail)
      go_wp2
      all_goals exact ⟨⟨k + 1, by omega, by go_num, by rw [ST.out]; congr 1; (try split) <;> (try split) <;> omega, Lib.hid (below_drewN BW.out _)⟩, by simp [intOf]; omega⟩
    · obtain rfl : k = ps.length := by omega
      have R := Lib.hid (step_yes HO.out)
      go_wp2
      go_ret
      exact ⟨by rw [R.out]; rfl, BW.out⟩
end Go.Proofs.Ytdbpejjbinbiiaa
