/- The contract of spec.l11Rising. Condition: the numbers lie in a row of their own. -/
import Derived.Test.YtanlfkkmnnjpeaaRisM
import Derived.Test.YtanlfkkmnnjpeaaRowB
import Derived.BigQuiet
namespace Go.Proofs.Ytanlfkkmnnjpeaa
set_option linter.unusedVariables false
set_option linter.unusedSimpArgs false
open Go.RowKit

set_option maxRecDepth 100000 in
set_option maxHeartbeats 1600000 in
theorem specRise (v : Value) (zs : List Int) (most : Int) (b : Nat) (w : World) (h : OwnI w b v zs) (hl : zs.length ≤ 2000000) :
    Calls Try.prog 46 #[v, .int .i64 most] w fun e w' => e = .returned (.bool (rising zs most)) ∧ Below w.heap.size w w' := by
  obtain ⟨A, c, rfl⟩ := h.slice
  have O := Lib.hid h
  have C0 := Lib.hid (fun v lo hi W => l01In_any v lo hi W)
  have R1 := Lib.hid (fun (h : ∀ k, k < zs.length → riseAt zs most k = true) => (rise_iff zs most zs.length).2 h)
  have R0 := Lib.hid (fun k (hk : k < zs.length) h => rise_bad (most := most) hk h)
  clear h
  go_enter Try.func46, Try.ntmps46
  go_wp2_with fail
  go_loopw [5] (fun iv wr => ∃ k : Nat, k ≤ zs.length ∧ iv = .int .i64 (k : Int) ∧ Hid (∀ i, i < k → riseAt zs most i = true) ∧ Hid (Below w.heap.size w wr)) (fun iv _ => zs.length - (intOf iv).toNat)
  case atStart => exact ⟨0, by omega, rfl, Lib.hid (fun i hi => absurd hi (by omega)), Lib.hid (Below.refl _ _)⟩
  case round =>
    obtain ⟨k, hk, rfl, HN, BW⟩ := hrel
    by_cases hlt : k < zs.length
    rotate_left
    · obtain rfl : k = zs.length := by omega
      have R := Lib.hid (show rising zs most = true from R1.out HN.out)
      go_wp2
      go_ret
      exact ⟨by rw [R.out]; rfl, BW.out⟩
    have hk0 : (0 : Int) ≤ (k : Int) := by omega
    have hk1 : (k : Int) < (zs.length : Int) := by omega
    obtain ⟨g, _, f1, _, _, z0, _⟩ := (O.out.below BW.out).spot hlt
    simp only [Value.slice.injEq] at f1
    obtain ⟨rfl, -, rfl⟩ := f1
    have NX := Lib.hid (fun (h : riseAt zs most k = true) => (show ∀ i, i < k + 1 → riseAt zs most i = true from fun i hi => by
      rcases (by omega : i < k ∨ i = k) with q | rfl
      · exact HN.out i q
      · exact h))
    have RX := Lib.hid (R0.out k hlt)
    have AT := Lib.hid (show riseAt zs most k = (inB zs[k] 0 most && (decide (k = 0) || decide (zs.getD (k - 1) 0 < zs[k]))) by
      unfold riseAt
      rw [show zs.getD k 0 = zs[k] by rw [List.getD_eq_getElem?_getD, List.getElem?_eq_getElem hlt]; rfl])
    have WY := Lib.hid (fun q => (below_drewN BW.out q : Below w.heap.size w (wr.drewN q)))
    generalize zs[k] = x at z0 AT
    cases hin : inB x 0 most with
    | false =>
      have R := Lib.hid (RX.out (by rw [AT.out, hin]; rfl))
      have C1 := Lib.hid (fun W => (hin ▸ C0.out x 0 most W : Calls Try.prog 48 #[.int .i64 x, .int .i64 0, .int .i64 most] W fun e w' => e = .returned (.bool false) ∧ w' = W))
      clear hin NX AT
      go_wp2_with fail
      go_quiet (first | (go_at_call 48; refine Calls.quiet_of_same (C1.out _)))
      go_wp2
      go_ret
      exact ⟨by rw [R.out]; rfl, WY.out _⟩
    | true =>
      have C1 := Lib.hid (fun W => (hin ▸ C0.out x 0 most W : Calls Try.prog 48 #[.int .i64 x, .int .i64 0, .int .i64 most] W fun e w' => e = .returned (.bool true) ∧ w' = W))
      rcases Nat.eq_zero_or_pos k with rfl | hpos
      · have N2 := Lib.hid (NX.out (by rw [AT.out, hin]; rfl))
        clear hin NX AT
        go_wp2_with fail
        go_quiet (first | (go_at_call 48; refine Calls.quiet_of_same (C1.out _)))
        go_wp2
        exact ⟨⟨1, by omega, by rfl, N2, Lib.hid (WY.out _)⟩, by simp [intOf]; omega⟩
      · obtain ⟨j, rfl⟩ : ∃ j, k = j + 1 := ⟨k - 1, by omega⟩
        have hj : j < zs.length := by omega
        obtain ⟨_, _, f1, _, _, z1, _⟩ := (O.out.below BW.out).spot hj
        simp only [Value.slice.injEq, Option.some.injEq, Addr.mk.injEq] at f1
        obtain ⟨⟨rfl, _⟩, -, -⟩ := f1
        have A2 := Lib.hid (show riseAt zs most (j + 1) = decide (zs[j] < x) by
          rw [AT.out, hin, show j + 1 - 1 = j by omega, show zs.getD j 0 = zs[j] by rw [List.getD_eq_getElem?_getD, List.getElem?_eq_getElem hj]; rfl]
          simp)
        have ek : ((j + 1 : Nat) : Int) = (j : Int) + 1 := by omega
        have e1 : IntKind.i64.wrap ((j : Int) + 1 - 1) = (j : Int) := by rw [IntWalk.i64_in _ (by omega)]; omega
        have hp : (0 : Int) < (j : Int) + 1 := by omega
        have hj0 : (0 : Int) ≤ (j : Int) := by omega
        have hj1 : (j : Int) < (zs.length : Int) := by omega
        generalize zs[j] = y at z1 A2
        clear hin AT
        by_cases hyx : y < x
        · have N2 := Lib.hid (NX.out (by rw [A2.out]; exact decide_eq_true hyx))
          have dx : decide (x ≤ y) = false := decide_eq_false (by omega)
          have nx : ¬ x ≤ y := by omega
          clear hyx NX A2
          go_wp2_with fail
          go_quiet (first | (go_at_call 48; refine Calls.quiet_of_same (C1.out _)))
          go_wp2
          exact ⟨⟨j + 2, by omega, by go_num, N2, Lib.hid (WY.out _)⟩, by simp [intOf]; omega⟩
        · have R := Lib.hid (RX.out (by rw [A2.out]; exact decide_eq_false hyx))
          have dx : decide (x ≤ y) = true := decide_eq_true (by omega)
          clear hyx NX A2
          go_wp2_with fail
          go_quiet (first | (go_at_call 48; refine Calls.quiet_of_same (C1.out _)))
          go_wp2
          go_ret
          exact ⟨by rw [R.out]; rfl, WY.out _⟩

end Go.Proofs.Ytanlfkkmnnjpeaa
