/- A result of two: an own row of numbers and a bool. No condition. -/
import Derived.Test.YtanlfkkmnnjpeaaPk1
namespace Go.Proofs.Ytanlfkkmnnjpeaa
set_option linter.unusedVariables false
open Go.RowKit

/-- An own row of numbers and a bool. -/
def IntsB (w : World) (r : List Int × Bool) (e : Ending) (w' : World) : Prop := ∃ v, e = .returned (.tuple #[v, .bool r.2]) ∧ OwnI w' w.heap.size v r.1 ∧ Below w.heap.size w w'
end Go.Proofs.Ytanlfkkmnnjpeaa
