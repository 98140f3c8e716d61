/- How many numbers a row of rows holds, by what the law measures. Plain mathematics. -/
import Derived.Test.YtanlfkkmnnjpeaaRow2L
import Derived.Test.YtanlfkkmnnjpeaaPk6
namespace Go.Proofs.Ytanlfkkmnnjpeaa
set_option linter.unusedVariables false
open Go.RowKit

theorem upTo_bulk (zss : List (List Int)) : upTo zss zss.length + zss.length = bulk zss := by
  have h : ∀ k, upTo zss k + zss.length = bulkTo zss k := by
    intro k
    induction k with
    | zero => simp [upTo, bulkTo]
    | succ k ih => rw [upTo, bulkTo]; omega
  exact h _
end Go.Proofs.Ytanlfkkmnnjpeaa
