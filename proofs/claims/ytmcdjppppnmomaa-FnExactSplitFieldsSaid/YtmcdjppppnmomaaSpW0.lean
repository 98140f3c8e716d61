/- What the contracts of both SplitFields functions share. -/
import Derived.Test.YtmcdjppppnmomaaSpM
namespace Go.Proofs.Ytmcdjppppnmomaa
open Go.RowKit

/-- What a function that splits a line comes to: a row of its own holds the fields. -/
def SplitPost (w : World) (r : List (List UInt8) × Bool) (e : Ending) (w' : World) : Prop :=
  ∃ v : Value, e = .returned (.tuple #[v, .bool r.2]) ∧ OwnS w' w.heap.size v r.1 ∧ Below w.heap.size w w'

theorem ownS_nil (w : World) (base : Nat) (h : base ≤ w.heap.size) : OwnS (w.alloc (.cells #[] 9)) base (.slice (some ⟨w.heap.size, 0, none⟩) 0 0) [] :=
  World.ownsRow_lit w #[] 0 h (by decide) rfl

theorem slice_own {w : World} {base : Nat} {v : Value} {fs : List (List UInt8)} (h : OwnS w base v fs) : ∃ A cap, v = .slice A fs.length cap := by
  rcases h.2 with ⟨rfl, hn⟩ | ⟨g, cap, cur, rfl, _⟩
  · exact ⟨none, 0, by rw [hn]⟩
  · exact ⟨_, cap, rfl⟩
end Go.Proofs.Ytmcdjppppnmomaa
