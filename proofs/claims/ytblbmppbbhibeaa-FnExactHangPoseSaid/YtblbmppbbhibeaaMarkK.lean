/- Marks from a number on that is spelled in any way. Condition: the rows are the call's own. -/
import Derived.Test.YtblbmppbbhibeaaInts
import Derived.Test.YtblbmppbbhibeaaMarkI
namespace Go.Proofs.Ytblbmppbbhibeaa
set_option linter.unusedVariables false
set_option linter.unusedSimpArgs false
open Go.RowKit

theorem markBody_at (J : Int) (v : Value) (ls : List Lb) (base : Nat) (w : World) (hown : OwnL w base v ls) (hl : ls.length ≤ 2000000) (u : Nat) (k : Int) (hk : k = (u : Int)) (h1 : u ≤ 10000000) :
    Calls Try.prog 27 #[bodyV J v, .int .i64 k] w fun e w' => e = .returned (.int .i64 ((u + 3 * ls.length : Nat) : Int)) ∧ OwnL w' base v (marksL u ls.length) ∧ w.grownBy w' v.ownBlock := by
  subst hk
  exact markBody_any J v ls base w hown hl u h1
end Go.Proofs.Ytblbmppbbhibeaa
