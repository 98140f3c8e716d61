/- The two Clamp functions return the same number: contracts of both, got by walking their bodies. No condition. -/
import Derived.Test.YtmcdjppppnmomaaBase
namespace Go.Proofs.Ytmcdjppppnmomaa
open Go.RowKit

/-- Clamping, as plain mathematics. -/
def clampI (n lo hi : Int) : Int := if hi < lo then lo else if n < lo then lo else if hi < n then hi else n

theorem specClamp (n lo hi : Int) (w : World) :
    Calls Try.prog 20 #[.int .i64 n, .int .i64 lo, .int .i64 hi] w fun e w' => e = .returned (.int .i64 (clampI n lo hi)) ∧ w = w' := by
  by_cases h1 : hi < lo
  · go_enter Try.func20, Try.ntmps20
    go_wp2
    go_ret
    exact ⟨ret_int (by unfold clampI; split <;> omega), rfl⟩
  · by_cases h2 : n < lo
    · go_enter Try.func20, Try.ntmps20
      go_wp2
      go_ret
      exact ⟨ret_int (by unfold clampI; (repeat' split) <;> omega), rfl⟩
    · by_cases h3 : hi < n
      all_goals
        go_enter Try.func20, Try.ntmps20
        go_wp2
        go_ret
        exact ⟨ret_int (by unfold clampI; (repeat' split) <;> omega), rfl⟩

theorem implClamp (n lo hi : Int) (w : World) :
    Calls Try.prog 10 #[.int .i64 n, .int .i64 lo, .int .i64 hi] w fun e w' => e = .returned (.int .i64 (clampI n lo hi)) ∧ w = w' := by
  go_enter Try.func10, Try.ntmps10
  go_wp2
  all_goals
    go_ret
    exact ⟨ret_int (by unfold clampI; (repeat' split) <;> omega), rfl⟩

theorem FnExactClamp_walk (n lo hi : Int) (w : World) (_ : (Lit.int .i64 n).wf = true) (_ : (Lit.int .i64 lo).wf = true) (_ : (Lit.int .i64 hi).wf = true) :
    Calls Try.prog 7 #[.int .i64 n, .int .i64 lo, .int .i64 hi] w fun e w' => e = .returned (.bool true) ∧ Below w.heap.size w w' := by
  have hb : (clampI n lo hi != clampI n lo hi) = false := by simp
  go_enter Try.func7, Try.ntmps7
  go_wp2_with (first | (go_at_call 20; refine (specClamp _ _ _ _).mono ?_; rintro e w' ⟨rfl, rfl⟩) | (go_at_call 10; refine (implClamp _ _ _ _).mono ?_; rintro e w' ⟨rfl, rfl⟩))
  go_ret
  exact ⟨rfl, Below.refl _ _⟩
end Go.Proofs.Ytmcdjppppnmomaa
