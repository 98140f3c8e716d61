/- What DrawPlayers draws are valid players. No condition. -/
import Derived.Test.YtanlfkkmnnjpeaaPk2
import Derived.Test.YtanlfkkmnnjpeaaPlrK
namespace Go.Proofs.Ytanlfkkmnnjpeaa
set_option linter.unusedVariables false
set_option linter.unusedSimpArgs false
open Go.RowKit

theorem good_players {ls : List RPlayer} (h : ∀ l ∈ ls, GoodPlayer l) (hl : 1 ≤ ls.length ∧ ls.length ≤ 5) : playersOk ls = true := by
  rw [playersOk_all fun k hk => ?_]
  · simp [inB]; omega
  · obtain ⟨q, p⟩ := h _ (List.getElem_mem hk)
    unfold playerFine
    rw [asc_rising p (show (6 : Int) ≤ 6 + 1 by omega)]
    generalize ls[k].f1 = y at q
    simp [inB]
    omega
end Go.Proofs.Ytanlfkkmnnjpeaa
