/- The contract of spec.StepSize. Condition: both rows of numbers are rows of their own. -/
import Derived.Test.YtdbpejjbinbiiaaGesM
import Derived.BigQuiet
import Derived.Deep.RegionHeld3
namespace Go.Proofs.Ytdbpejjbinbiiaa
set_option linter.unusedVariables false
open Go.RowKit

set_option maxRecDepth 100000 in
set_option maxHeartbeats 1600000 in
theorem specStep (v1 v2 : Value) (ps qs : List Int) (b1 b2 : Nat) (w : World) (h1 : OwnI w b1 v1 ps) (h2 : OwnI w b2 v2 qs) (hp : ps.length ≤ 2000000) (hq : qs.length ≤ 2000000) :
    Calls Try.prog 20 #[v1, v2] w fun e w' => e = .returned (.int .i64 (stepSize ps qs)) ∧ Below w.heap.size w w' := by
  obtain ⟨P, c, rfl⟩ := h1.slice
  obtain ⟨Q, d, rfl⟩ := h2.slice
  have HP := Lib.hid h1
  have HQ := Lib.hid h2
  have C0 := Lib.hid (fun v lo hi W => (l01In_any v lo hi W).mono fun e w' h => (show _ ∧ W = w' from ⟨h.1, h.2.symm⟩))
  clear h1 h2
  by_cases hl : ps.length = qs.length
  rotate_left
  · have R := Lib.hid (step_no (ps := ps) (qs := qs) (by unfold pairOk; rw [decide_eq_false hl]; rfl))
    have hne : ((ps.length : Int) != (qs.length : Int)) = true := by simp; omega
    clear hl
    go_enter Try.func20, Try.ntmps20
    go_wp2
    go_ret
    exact ⟨by rw [R.out]; rfl, Below.refl _ _⟩
  by_cases h12 : ps.length ≤ 12
  rotate_left
  · have R := Lib.hid (step_no (ps := ps) (qs := qs) (by unfold pairOk; rw [decide_eq_true hl, decide_eq_false h12]; rfl))
    have hne : ((ps.length : Int) != (qs.length : Int)) = false := by simp; omega
    have hgt : (12 : Int) < (ps.length : Int) := by omega
    clear hl
    go_enter Try.func20, Try.ntmps20
    go_wp2
    go_ret
    exact ⟨by rw [R.out]; rfl, Below.refl _ _⟩
  have hne : ((ps.length : Int) != (qs.length : Int)) = false := by simp; omega
  have hgt : ¬ (12 : Int) < (ps.length : Int) := by omega
  have HL := Lib.hid hl
  clear hl
  go_enter Try.func20, Try.ntmps20
  go_wp2_with fail
  go_loopw [5, 6] (fun nv iv wr => ∃ k : Nat, k ≤ ps.length ∧ iv = .int .i64 (k : Int) ∧ nv = .int .i64 (stepTo ps qs k) ∧ Hid (allIn (-2000) 2000 (ps.take k) = true) ∧ Hid (allIn (-2000) 2000 (qs.take k) = true) ∧ Hid (Below w.heap.size w wr)) (fun _ iv _ => ps.length - (intOf iv).toNat)
  case atStart => exact ⟨0, by omega, rfl, rfl, rfl, rfl, Lib.hid (Below.refl _ _)⟩
  case round =>
    obtain ⟨k, hk, rfl, rfl, HA, HB, BW⟩ := hrel
    by_cases hlt : k < ps.length
    · have hlq : k < qs.length := by rw [← HL.out]; exact hlt
      obtain ⟨g, _, f1, _, _, z0, _⟩ := (HP.out.below BW.out).spot hlt
      simp only [Value.slice.injEq] at f1
      obtain ⟨rfl, em, rfl⟩ := f1
      clear em
      obtain ⟨gq, _, f2, _, _, z1, _⟩ := (HQ.out.below BW.out).spot hlq
      simp only [Value.slice.injEq] at f2
      obtain ⟨rfl, em, rfl⟩ := f2
      clear em
      have hk0 : (0 : Int) ≤ (k : Int) := by omega
      have hk1 : (k : Int) < (ps.length : Int) := by omega
      have hk2 : (k : Int) < (qs.length : Int) := by omega
      have AP := Lib.hid (allIn_more (lo := -2000) (hi := 2000) hlt)
      have AQ := Lib.hid (allIn_more (lo := -2000) (hi := 2000) hlq)
      have NP := Lib.hid (fun hx => allIn_miss (lo := -2000) (hi := 2000) hlt hx)
      have NQ := Lib.hid (fun hx => allIn_miss (lo := -2000) (hi := 2000) hlq hx)
      have ST := Lib.hid (stepTo_more hlt hlq)
      generalize ps[k] = x at z0 AP NP ST
      generalize qs[k] = y at z1 AQ NQ ST
      generalize stepTo ps qs k = t at ST
      clear hlt hlq
      cases hx : inB x (-2000) 2000 with
      | false =>
        have R := Lib.hid (step_no (ps := ps) (qs := qs) (by unfold pairOk; rw [NP.out hx]; simp))
        go_wp2_with (go_at_call 49; refine (C0.out _ _ _ _).mono ?_; rintro e w' ⟨rfl, rfl⟩)
        go_ret
        exact ⟨by rw [R.out]; rfl, BW.out⟩
      | true =>
        cases hy : inB y (-2000) 2000 with
        | false =>
          have R := Lib.hid (step_no (ps := ps) (qs := qs) (by unfold pairOk; rw [NQ.out hy]; simp))
          go_wp2_with (go_at_call 49; refine (C0.out _ _ _ _).mono ?_; rintro e w' ⟨rfl, rfl⟩)
          go_ret
          exact ⟨by rw [R.out]; rfl, BW.out⟩
        | true =>
          have A2 := Lib.hid (show allIn (-2000) 2000 (ps.take (k + 1)) = true by rw [AP.out, HA.out]; exact hx)
          have A3 := Lib.hid (show allIn (-2000) 2000 (qs.take (k + 1)) = true by rw [AQ.out, HB.out]; exact hy)
          have hxr : -2000 ≤ x ∧ x ≤ 2000 := by simpa [inB] using hx
          have hyr : -2000 ≤ y ∧ y ≤ 2000 := by simpa [inB] using hy
          have e1 : IntKind.i64.wrap (x - y) = x - y := IntWalk.i64_in _ (by omega)
          have e2 : IntKind.i64.wrap (y - x) = y - x := IntWalk.i64_in _ (by omega)
          clear NP NQ AP AQ
          go_wp2_with (go_at_call 49; refine (C0.out _ _ _ _).mono ?_; rintro e w' ⟨rfl, rfl⟩)
          go_quiet (fail)
          go_wp2
          all_goals exact ⟨⟨k + 1, by omega, by go_num, by rw [ST.out]; congr 1; (try split) <;> (try split) <;> omega, A2, A3, Lib.hid (below_drewN BW.out _)⟩, by simp [intOf]; omega⟩
    · obtain rfl : k = ps.length := by omega
      have R := Lib.hid (step_yes (pair_of HL.out h12 (by have := HA.out; rwa [List.take_length] at this) (by have := HB.out; rwa [HL.out, List.take_length] at this)))
      go_wp2
      go_ret
      exact ⟨by rw [R.out]; rfl, BW.out⟩
end Go.Proofs.Ytdbpejjbinbiiaa
