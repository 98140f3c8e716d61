/- The contract of the program's cueFits. Condition: the numbers lie in rows of their own. -/
import Derived.Test.YtbgogcobkiaejabRsjI
import Derived.Test.YtbgogcobkiaejabCokM
import Derived.Test.YtbgogcobkiaejabGrow
namespace Go.Proofs.Ytbgogcobkiaejab
set_option linter.unusedVariables false
set_option linter.unusedSimpArgs false
open Go.RowKit

set_option maxRecDepth 100000 in
set_option maxHeartbeats 1600000 in
theorem implFits (l : RCue) (n : Nat) (A1 A2 : Option Addr) (c1 c2 : Nat) (b : Nat) (w : World) (hn : n ≤ 2000000) (o1 : OwnI w b (.slice A1 l.f1.length c1) l.f1) (o2 : OwnI w b (.slice A2 l.f2.length c2) l.f2) (h1 : l.f1.length ≤ 2000000) (h2 : l.f2.length ≤ 2000000) :
    Calls Try.prog 38 #[.agg #[.int .i64 l.f0, .slice A1 l.f1.length c1, .slice A2 l.f2.length c2], .int .i64 (n : Int)] w fun e w' => e = .returned (.bool (cueFine n l)) ∧ Below w.heap.size w w' := by
  have BA := Lib.hid ((Below.refl w.heap.size w).alloc (Nat.le_refl _) (.cells #[.int .i64 l.f0, .slice A1 l.f1.length c1, .slice A2 l.f2.length c2] 31))
  have P1 := Lib.hid ((implAsc _ l.f1 ((n : Int) - 1) b _ (o1.alloc (.cells #[.int .i64 l.f0, .slice A1 l.f1.length c1, .slice A2 l.f2.length c2] 31)) h1).mono fun e w' h => (show _ ∧ w.alloc _ = w' from ⟨h.1, h.2.symm⟩))
  have P2 := Lib.hid (implPup _ l.f2 b _ (o2.alloc (.cells #[.int .i64 l.f0, .slice A1 l.f1.length c1, .slice A2 l.f2.length c2] 31)) h2)
  have C1 := Lib.hid (fun W => (inRange_any l.f0 1 50 W).mono fun e w' h => (show _ ∧ W = w' from ⟨h.1, h.2.symm⟩))
  have en : IntKind.i64.wrap ((n : Int) - 1) = (n : Int) - 1 := IntWalk.i64_in _ (by omega)
  have FI := Lib.hid (show cueFine n l = (inB l.f0 1 50 && (rising l.f1 ((n : Int) - 1) && rising l.f2 6)) from rfl)
  clear o1 o2
  cases q1 : inB l.f0 1 50 with
  | false =>
    have R := Lib.hid (show cueFine n l = false by rw [FI.out, q1]; rfl)
    rw [q1] at C1
    go_enter Try.func38, Try.ntmps38
    go_wp2_with (go_at_call 37; refine (C1.out _).mono ?_; rintro e w' ⟨rfl, rfl⟩)
    go_ret
    exact ⟨by rw [R.out]; rfl, BA.out⟩
  | true =>
    rw [q1] at C1
    cases q2 : rising l.f1 ((n : Int) - 1) with
    | false =>
      have R := Lib.hid (show cueFine n l = false by rw [FI.out, q1, q2]; rfl)
      rw [q2] at P1
      go_enter Try.func38, Try.ntmps38
      go_wp2_with (first | (go_at_call 37; refine (C1.out _).mono ?_; rintro e w' ⟨rfl, rfl⟩) | (go_at_call 51; refine P1.out.mono ?_; rintro e w' ⟨rfl, rfl⟩))
      go_ret
      exact ⟨by rw [R.out]; rfl, BA.out⟩
    | true =>
      have R := Lib.hid (show cueFine n l = rising l.f2 6 by rw [FI.out, q1, q2]; rfl)
      rw [q2] at P1
      go_enter Try.func38, Try.ntmps38
      go_wp2_with (first | (go_at_call 37; refine (C1.out _).mono ?_; rintro e w' ⟨rfl, rfl⟩) | (go_at_call 52; refine P2.out.mono ?_; rintro e w' ⟨rfl, rfl⟩) | (go_at_call 51; refine P1.out.mono ?_; rintro e w' ⟨rfl, rfl⟩))
      go_ret
      exact ⟨by rw [R.out]; rfl, BA.out⟩
end Go.Proofs.Ytbgogcobkiaejab
