/- The contract of the program's look whether one number lies in a range. -/
import Derived.Test.YtanlfkkmnnjpeaaIn
namespace Go.Proofs.Ytanlfkkmnnjpeaa
set_option linter.unusedVariables false
open Go.RowKit

theorem inRange_yes {v lo hi : Int} (h : lo ≤ v ∧ v ≤ hi) (w : World) :
    Calls Try.prog 52 #[.int .i64 v, .int .i64 lo, .int .i64 hi] w fun e w' => e = .returned (.bool true) ∧ w' = w := by
  obtain ⟨h1, h2⟩ := h
  go_enter Try.func52, Try.ntmps52
  go_wp2
  go_ret
  exact ⟨rfl, rfl⟩
theorem inRange_no {v lo hi : Int} (h : ¬ (lo ≤ v ∧ v ≤ hi)) (w : World) :
    Calls Try.prog 52 #[.int .i64 v, .int .i64 lo, .int .i64 hi] w fun e w' => e = .returned (.bool false) ∧ w' = w := by
  by_cases h1 : lo ≤ v
  · have h2 : ¬ v ≤ hi := fun x => h ⟨h1, x⟩
    go_enter Try.func52, Try.ntmps52
    go_wp2
    go_ret
    exact ⟨rfl, rfl⟩
  · go_enter Try.func52, Try.ntmps52
    go_wp2
    go_ret
    exact ⟨rfl, rfl⟩
theorem inRange_any (v lo hi : Int) (w : World) :
    Calls Try.prog 52 #[.int .i64 v, .int .i64 lo, .int .i64 hi] w fun e w' => e = .returned (.bool (inB v lo hi)) ∧ w' = w := by
  by_cases h : lo ≤ v ∧ v ≤ hi
  · rw [inB_yes h]
    exact inRange_yes h w
  · rw [inB_no h]
    exact inRange_no h w
end Go.Proofs.Ytanlfkkmnnjpeaa
