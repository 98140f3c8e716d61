/- A row of rows of the call's own behind a write into a set of older blocks. No condition. -/
import Derived.Test.YtanlfkkmnnjpeaaPk6
import Derived.Test.YtanlfkkmnnjpeaaPk7
namespace Go.Proofs.Ytanlfkkmnnjpeaa
set_option linter.unusedVariables false
open Go.RowKit

theorem OwnR.olderIn {w w' : World} {base : Nat} {v : Value} {zss : List (List Int)} {P : Nat → Prop} (h : OwnR w base v zss) (hg : GrownIn w w' P) (hr : ∀ k, P k → k < base) : OwnR w' base v zss := by
  obtain ⟨vs, h⟩ := h
  exact ⟨vs, ownsRow_in h.row hg (fun i e p => by have := (h.lt i e).1; have := hr i p; omega), h.len, fun i hi hi' => (h.each i hi hi').in hg (fun k e p => by have := ((h.each i hi hi').lt k e).1; have := hr k p; omega), h.off, h.apart⟩
end Go.Proofs.Ytanlfkkmnnjpeaa
