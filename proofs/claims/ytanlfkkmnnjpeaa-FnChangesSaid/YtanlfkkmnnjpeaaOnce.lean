/- The contract of spec.l01Once. Condition: the bytes can be read. -/
import Derived.Test.YtanlfkkmnnjpeaaDraw
namespace Go.Proofs.Ytanlfkkmnnjpeaa
set_option linter.unusedVariables false
set_option linter.unusedSimpArgs false
open Go.RowKit

/-- What a function that draws one truth comes to. -/
def BoolPost (w0 : World) (a : Option Addr) (n cap : Nat) (w : World) (b : Nat) (e : Ending) (w' : World) : Prop :=
  ∃ x : Bool, e = .returned (.bool x) ∧ St w0 a n cap w' b ∧ w.grownBy w' (some b)
theorem once_any (w0 : World) (a : Option Addr) (n cap : Nat) (z : List Int) (hr : IsRow .u8 w0 a n cap z) (w : World) (b : Nat) (hs : St w0 a n cap w b) (m : Int) :
    Calls Try.prog 62 #[.pointer (some ⟨b, 0, none⟩), .int .i64 m] w (BoolPost w0 a n cap w b) := by
  have C := Lib.hid (below_any w0 a n cap z hr)
  clear hr
  go_enter Try.func62, Try.ntmps62
  go_wp2_with fail
  refine (C.out _ _ hs _).mono ?_
  rintro e w1 ⟨x, rfl, _, hs1, hg1⟩
  go_wp2
  go_ret
  exact ⟨_, rfl, hs1, hg1⟩
end Go.Proofs.Ytanlfkkmnnjpeaa
