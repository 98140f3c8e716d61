/- A slice of numbers inside of a struct that came in, as the form hands it over. No condition. -/
import Derived.Test.YtanlfkkmnnjpeaaPk1
import Derived.Deep.Slices
import Derived.Lib.SmallJoins
import Derived.ChangeSame
namespace Go.Proofs.Ytanlfkkmnnjpeaa
set_option linter.unusedVariables false
open Go.RowKit Go.ChangeShapes Go.WideShapes Go.ChangeAt Go.Deep Go.Joins

section
variable {H : Type} {enc : TypeId × Value → H} {W : World}
/-- A slice of numbers inside of a struct that came in. -/
theorem irow_in {d : DataW H × List MemPlace} {fuel : Nat} {v : Value} (h : DataW.trod enc Try.prog W 0 (fun _ => true) true fuel 33 [v] = some d) : ∃ a n cap z, v = .slice a n cap ∧ IsRow .i64 W a n cap z := by
  rcases open_ints Try.underlying33 Try.underlying3 (by kernel_rfl) h with ⟨hcs, _⟩ | ⟨x, l, c, zs, hcs, _, hl, hm, hz, _, hcell, hwz⟩
  · simp only [List.cons.injEq, and_true] at hcs
    exact ⟨none, 0, 0, [], hcs, .inl ⟨rfl, rfl, rfl, rfl⟩⟩
  · simp only [List.cons.injEq, and_true] at hcs
    exact ⟨some x, l, c, zs, hcs, .inr ⟨_, rfl, hl, hm, by simpa using hz, hcell, hwz⟩⟩
end
end Go.Proofs.Ytanlfkkmnnjpeaa
