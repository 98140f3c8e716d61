/- Marks from a number on that is spelled in any way: a row of numbers. Condition: the row is the call's own. -/
import Derived.Test.YtjpalndcfaeihaaIntL
import Derived.Test.YtjpalndcfaeihaaIntR
namespace Go.Proofs.Ytjpalndcfaeihaa
set_option linter.unusedVariables false
open Go.RowKit

theorem markIntS_at (v : Value) (zs : List Int) (base : Nat) (w : World) (hown : OwnI w base v zs) (hl : zs.length ≤ 2000000) (u : Nat) (k : Int) (hk : k = (u : Int)) (h1 : u ≤ 10000000) :
    Calls Try.prog 28 #[v, .int .i64 k] w fun e w' => e = .returned (.int .i64 ((u + zs.length : Nat) : Int)) ∧ OwnI w' base v (marksI u zs.length) ∧ w.grownBy w' v.ownBlock := by
  subst hk
  exact markIntS_any v zs base w hown hl u h1
end Go.Proofs.Ytjpalndcfaeihaa
