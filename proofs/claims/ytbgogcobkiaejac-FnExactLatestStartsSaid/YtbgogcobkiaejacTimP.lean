/- The contract of spec.PlayTime. Condition: the cues lie in a row of their own. -/
import Derived.Test.YtbgogcobkiaejacTimS
import Derived.BigQuiet
namespace Go.Proofs.Ytbgogcobkiaejac
set_option linter.unusedVariables false
set_option linter.unusedSimpArgs false
open Go.RowKit

set_option maxRecDepth 100000 in
set_option maxHeartbeats 1600000 in
theorem specPla (v : Value) (ls : List RCue) (b : Nat) (w : World) (h : OwnCue w b v ls) (hl : bulkCue ls ≤ 1048576) :
    Calls Try.prog 27 #[v] w fun e w' => e = .returned (.int .i64 (playTime ls)) ∧ Below w.heap.size w w' := by
  have CS := Lib.hid (specSta v ls b w h hl)
  obtain ⟨A, c, rfl⟩ := h.slice
  have O := Lib.hid h
  have SM := Lib.hid (fun k (hk : k < (startsOf ls).length) => startsOf_same hk)
  have PI := Lib.hid (play_in ls)
  have SI := Lib.hid (startsOf_in ls)
  have R := Lib.hid (show playTime ls = playTo ls (startsOf ls).length from rfl)
  clear h hl
  go_enter Try.func27, Try.ntmps27
  go_wp2_with fail
  refine CS.out.mono ?_
  rintro e w1 ⟨vs, rfl, s1, b1⟩
  obtain ⟨S, cs, rfl⟩ := s1.slice
  have S1 := Lib.hid s1
  have B1 := Lib.hid b1
  have O1 := Lib.hid (O.out.below b1)
  clear s1 b1 CS
  obtain ⟨M, hM⟩ : ∃ M, (startsOf ls).length = M := ⟨_, rfl⟩
  have HM := Lib.hid hM
  have hM2 := startsOf_len ls
  rw [hM] at SM PI R S1 hM2 ⊢
  clear hM
  go_wp2_with fail
  go_loopw [3, 5] (fun nv kv wr => ∃ k : Nat, k ≤ M ∧ nv = .int .i64 (playTo ls k) ∧ kv = .int .i64 (k : Int) ∧ Hid (Below w1.heap.size w1 wr)) (fun _ kv _ => M - (intOf kv).toNat)
  case atStart => exact ⟨0, by omega, rfl, rfl, Lib.hid (Below.refl _ _)⟩
  case round =>
    obtain ⟨k, hk, rfl, rfl, BW⟩ := hrel
    by_cases hlt : k < M
    rotate_left
    · obtain rfl : k = M := by omega
      go_wp2
      go_ret
      exact ⟨by rw [R.out]; rfl, B1.out.trans (BW.out.mono B1.out.size)⟩
    have hk0 : (0 : Int) ≤ (k : Int) := by omega
    have hk1 : (k : Int) < (M : Int) := by omega
    obtain ⟨hok, hl, hll⟩ := SM.out k hlt
    have hk2 : (k : Int) < (ls.length : Int) := by omega
    obtain ⟨_, _, f1, -, -, y0, -⟩ := (S1.out.below BW.out).spot (k := k) (by rw [HM.out]; exact hlt)
    simp only [Value.slice.injEq] at f1
    obtain ⟨rfl, -, -⟩ := f1
    obtain ⟨g, _, _, _, _, _, f1, -, ⟨t0, -, -⟩, -⟩ := (O1.out.below BW.out).spot hl
    simp only [Value.slice.injEq] at f1
    obtain ⟨rfl, -, -⟩ := f1
    have ft := (cue_fine hok hl).1
    have b1 := SI.out k
    have b2 := PI.out k hk
    rw [show ls[k] = ls.getD k RCue.zero from by rw [List.getD_eq_getElem?_getD, List.getElem?_eq_getElem hl]; rfl] at t0
    rw [show (startsOf ls)[k]'(by rw [HM.out]; exact hlt) = (startsOf ls).getD k 0 from by rw [List.getD_eq_getElem?_getD, List.getElem?_eq_getElem (by rw [HM.out]; exact hlt)]; rfl] at y0
    have NX := Lib.hid (show playTo ls (k + 1) = if playTo ls k < (startsOf ls).getD k 0 + (ls.getD k RCue.zero).f0 then (startsOf ls).getD k 0 + (ls.getD k RCue.zero).f0 else playTo ls k from rfl)
    generalize (startsOf ls).getD k 0 = y at y0 b1 NX
    generalize (ls.getD k RCue.zero).f0 = t at t0 ft NX
    generalize playTo ls k = x at b2 NX ⊢
    have ew : IntKind.i64.wrap (y + t) = y + t := IntWalk.i64_in _ (by omega)
    have WY := Lib.hid (fun z => (below_drewN BW.out z : Below w1.heap.size w1 (wr.drewN z)))
    clear hll
    go_wp2_with fail
    go_quiet (fail)
    go_wp2
    exact ⟨⟨k + 1, by omega, by rw [NX.out], by go_num, Lib.hid (WY.out _)⟩, by simp [intOf]; omega⟩
end Go.Proofs.Ytbgogcobkiaejac
