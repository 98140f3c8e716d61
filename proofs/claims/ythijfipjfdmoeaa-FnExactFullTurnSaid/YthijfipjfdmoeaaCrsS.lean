/- The contracts of spec.CrossesOk and UndoCrosses. Condition: the crossings lie in a row of their own. -/
import Derived.Test.YthijfipjfdmoeaaCrsM
import Derived.Test.YthijfipjfdmoeaaCrossA
import Derived.BigQuiet
namespace Go.Proofs.Ythijfipjfdmoeaa
set_option linter.unusedVariables false
set_option linter.unusedSimpArgs false
open Go.RowKit

set_option maxRecDepth 100000 in
set_option maxHeartbeats 1600000 in
theorem specCrOk (n : Int) (v : Value) (ls : List RCross) (b : Nat) (w : World) (h : OwnCross w b v ls) (hl : ls.length ≤ 2000000) :
    Calls Try.prog 37 #[.int .i64 n, v] w fun e w' => e = .returned (.bool (crossOk n ls)) ∧ Below w.heap.size w w' := by
  obtain ⟨A, c, rfl⟩ := h.slice
  have O := Lib.hid h
  have C0 := Lib.hid (fun v lo hi W => (l01In_any v lo hi W).mono fun e w' h => (show _ ∧ W = w' from ⟨h.1, h.2.symm⟩))
  clear h
  cases hn : inB n 1 7 with
  | false =>
    have R := Lib.hid (crossOk_no (ls := ls) (.inl hn))
    go_enter Try.func37, Try.ntmps37
    go_wp2_with (go_at_call 48; refine (C0.out _ _ _ _).mono ?_; rintro e w' ⟨rfl, rfl⟩)
    go_ret
    exact ⟨by rw [R.out]; rfl, Below.refl _ _⟩
  | true =>
    by_cases h40 : 40 < ls.length
    · have R := Lib.hid (crossOk_no (n := n) (.inr h40))
      have h41 : (40 : Int) < (ls.length : Int) := by omega
      go_enter Try.func37, Try.ntmps37
      go_wp2_with (go_at_call 48; refine (C0.out _ _ _ _).mono ?_; rintro e w' ⟨rfl, rfl⟩)
      go_ret
      exact ⟨by rw [R.out]; rfl, Below.refl _ _⟩
    have h41 : ¬ (40 : Int) < (ls.length : Int) := by omega
    have R := Lib.hid (fun h => crossOk_yes (n := n) (ls := ls) hn (by omega) h)
    have R0 := Lib.hid (fun k (hk : k < ls.length) => crossOk_at (n := n) hk)
    have hn' : 1 ≤ n ∧ n ≤ 7 := by
      unfold inB at hn
      exact of_decide_eq_true hn
    have e1 : IntKind.i64.wrap (n - 2) = n - 2 := IntWalk.i64_in _ (by omega)
    go_enter Try.func37, Try.ntmps37
    go_wp2_with (go_at_call 48; refine (C0.out _ _ _ _).mono ?_; rintro e w' ⟨rfl, rfl⟩)
    go_loopw [5] (fun iv wr => ∃ k : Nat, k ≤ ls.length ∧ iv = .int .i64 (k : Int) ∧ Hid (∀ i (hi : i < ls.length), i < k → inB ls[i].f0 0 (n - 2) = true) ∧ Hid (Below w.heap.size w wr)) (fun iv _ => ls.length - (intOf iv).toNat)
    case atStart => exact ⟨0, by omega, rfl, Lib.hid (fun i _ hi => absurd hi (by omega)), Lib.hid (Below.refl _ _)⟩
    case round =>
      obtain ⟨k, hk, rfl, HT, BW⟩ := hrel
      by_cases hlt : k < ls.length
      rotate_left
      · obtain rfl : k = ls.length := by omega
        go_wp2
        go_ret
        exact ⟨by rw [R.out (fun i hi => HT.out i hi hi)]; rfl, BW.out⟩
      have hk0 : (0 : Int) ≤ (k : Int) := by omega
      have hk1 : (k : Int) < (ls.length : Int) := by omega
      obtain ⟨g, _, f1, _, _, z0, _⟩ := (O.out.below BW.out).spot hlt
      simp only [Value.slice.injEq] at f1
      obtain ⟨rfl, -, rfl⟩ := f1
      have r0 : wr.cell? ⟨g, k * 2, none⟩ = some (.int .i64 ls[k].f0) := z0 0 _ rfl
      have NX := Lib.hid (fun (hx : inB ls[k].f0 0 (n - 2) = true) => (show ∀ i (hi : i < ls.length), i < k + 1 → inB ls[i].f0 0 (n - 2) = true from fun i hi hj => by
        rcases (by omega : i < k ∨ i = k) with h | rfl
        · exact HT.out i hi h
        · exact hx))
      have RX := Lib.hid (R0.out k hlt)
      generalize ls[k].f0 = x at r0 NX RX
      clear z0
      cases hx : inB x 0 (n - 2) with
      | false =>
        have RR := Lib.hid (RX.out hx)
        go_wp2_with (go_at_call 48; refine (C0.out _ _ _ _).mono ?_; rintro e w' ⟨rfl, rfl⟩)
        go_ret
        exact ⟨by rw [RR.out]; rfl, BW.out⟩
      | true =>
        have NN := Lib.hid (NX.out hx)
        go_wp2_with (go_at_call 48; refine (C0.out _ _ _ _).mono ?_; rintro e w' ⟨rfl, rfl⟩)
        exact ⟨⟨k + 1, by omega, by go_num, NN, BW⟩, by simp [intOf]; omega⟩
end Go.Proofs.Ythijfipjfdmoeaa
