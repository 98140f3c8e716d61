/-
  No cell of these rows narrows 'for every input' (looked for: loops, veiled, ifaces, maps, wideKeys, modest, calm, conditions, laid).
  DERIVED. THE GIVEN ROWS OF THIS SEAT. 7 by the template 'for every input the law returns true; each argument reads behind the call as it read before'; 0 by the template 'total and deterministic' (their statements: YtanlfkkmnnjpeaaTotals.lean).
  GIVEN WITH THE SEED: the statements are not yours to turn. If you find one false, say at which input.
  Laid BY PROGRAM, IN A SANDBOX (cutbox-rows.mjs): the forced cells as the released guide's own fill.sh prints them over the translation 3609d9c157ccde43… (all of the seat's roots in one cut). By AI agents, Wed Nov 11 2026. No macro, syntax, notation, axiom, sorry.
-/
import Derived.Test.YtanlfkkmnnjpeaaChecked
import GoSem.Claim
import GoSem.ClaimJoined
import GoSem.ClaimMapViews
import Derived.JoinedTies
import Derived.KernelRfl
namespace Go.Proofs.Ytanlfkkmnnjpeaa
/- THE CELL 'sum', in the pinned program and in every row, IS THE sha256 OF THE DUMP (.gsa) THAT YtanlfkkmnnjpeaaProg.lean LOADS. Nothing in Lean hashes anything: it is a label: what it is worth is what the hold of that sum in a sandbox is worth. -/
noncomputable def Try.pinned : Pinned := { name := "ytanlfkkmnnjpeaa", sum := "3609d9c157ccde43f6a56759516ff08381965afdc1ec129dd4c98d7339439607", checked := Try.checked }
namespace Rows
def none {H : Type} : Left H := { results := [], args := [] }

/-- 'laws.FnChanges': WHATEVER THE INPUT: true; the input reads as it did. -/
def fnChangesSpec : ChangeSpec := { name := "fnChanges", fn := fun _ => fun
  | [d] => { results := [.lit (.bool true)], args := [d] }
  | _ => none }
def fnChangesRow : OpenClaim := { program := "ytanlfkkmnnjpeaa", sum := "3609d9c157ccde43f6a56759516ff08381965afdc1ec129dd4c98d7339439607", func := "loop.example/g03306/laws.FnChanges", spec := "fnChanges", unfollowed := true, recurses := true, apart := false }
def FnChangesSaid : Prop := fnChangesRow.holds Try.pinned (OpenSpec.ofChange fnChangesSpec)

/-- ITS FALSE NEIGHBOUR: 'it returns false'. Refute it at one input. -/
def fnChangesWrong : ChangeSpec := { name := "fnChanges", fn := fun _ => fun
  | [d] => { results := [.lit (.bool false)], args := [d] }
  | _ => none }
def FnChangesWrongFalsely : Prop := fnChangesRow.holds Try.pinned (OpenSpec.ofChange fnChangesWrong)

/-- 'laws.FnExactNightOk': WHATEVER THE INPUT: true; the input reads as it did. -/
def fnExactNightOkSpec : ChangeSpec := { name := "fnExactNightOk", fn := fun _ => fun
  | [d1, d2] => { results := [.lit (.bool true)], args := [d1, d2] }
  | _ => none }
def fnExactNightOkRow : OpenClaim := { program := "ytanlfkkmnnjpeaa", sum := "3609d9c157ccde43f6a56759516ff08381965afdc1ec129dd4c98d7339439607", func := "loop.example/g03306/laws.FnExactNightOk", spec := "fnExactNightOk", apart := false }
def FnExactNightOkSaid : Prop := fnExactNightOkRow.holds Try.pinned (OpenSpec.ofChange fnExactNightOkSpec)

/-- ITS FALSE NEIGHBOUR: 'it returns false'. Refute it at one input. -/
def fnExactNightOkWrong : ChangeSpec := { name := "fnExactNightOk", fn := fun _ => fun
  | [d1, d2] => { results := [.lit (.bool false)], args := [d1, d2] }
  | _ => none }
def FnExactNightOkWrongFalsely : Prop := fnExactNightOkRow.holds Try.pinned (OpenSpec.ofChange fnExactNightOkWrong)

/-- 'laws.FnExactCastingsOf': WHATEVER THE INPUT: true; the input reads as it did. -/
def fnExactCastingsOfSpec : ChangeSpec := { name := "fnExactCastingsOf", fn := fun _ => fun
  | [d1, d2] => { results := [.lit (.bool true)], args := [d1, d2] }
  | _ => none }
def fnExactCastingsOfRow : OpenClaim := { program := "ytanlfkkmnnjpeaa", sum := "3609d9c157ccde43f6a56759516ff08381965afdc1ec129dd4c98d7339439607", func := "loop.example/g03306/laws.FnExactCastingsOf", spec := "fnExactCastingsOf", apart := false }
def FnExactCastingsOfSaid : Prop := fnExactCastingsOfRow.holds Try.pinned (OpenSpec.ofChange fnExactCastingsOfSpec)

/-- ITS FALSE NEIGHBOUR: 'it returns false'. Refute it at one input. -/
def fnExactCastingsOfWrong : ChangeSpec := { name := "fnExactCastingsOf", fn := fun _ => fun
  | [d1, d2] => { results := [.lit (.bool false)], args := [d1, d2] }
  | _ => none }
def FnExactCastingsOfWrongFalsely : Prop := fnExactCastingsOfRow.holds Try.pinned (OpenSpec.ofChange fnExactCastingsOfWrong)

/-- 'laws.FnExactChangesBetween': WHATEVER THE INPUT: true; the input reads as it did. -/
def fnExactChangesBetweenSpec : ChangeSpec := { name := "fnExactChangesBetween", fn := fun _ => fun
  | [d1, d2, d3, d4] => { results := [.lit (.bool true)], args := [d1, d2, d3, d4] }
  | _ => none }
def fnExactChangesBetweenRow : OpenClaim := { program := "ytanlfkkmnnjpeaa", sum := "3609d9c157ccde43f6a56759516ff08381965afdc1ec129dd4c98d7339439607", func := "loop.example/g03306/laws.FnExactChangesBetween", spec := "fnExactChangesBetween", apart := false }
def FnExactChangesBetweenSaid : Prop := fnExactChangesBetweenRow.holds Try.pinned (OpenSpec.ofChange fnExactChangesBetweenSpec)

/-- ITS FALSE NEIGHBOUR: 'it returns false'. Refute it at one input. -/
def fnExactChangesBetweenWrong : ChangeSpec := { name := "fnExactChangesBetween", fn := fun _ => fun
  | [d1, d2, d3, d4] => { results := [.lit (.bool false)], args := [d1, d2, d3, d4] }
  | _ => none }
def FnExactChangesBetweenWrongFalsely : Prop := fnExactChangesBetweenRow.holds Try.pinned (OpenSpec.ofChange fnExactChangesBetweenWrong)

/-- 'laws.FnExactFewestChanges': WHATEVER THE INPUT: true; the input reads as it did. -/
def fnExactFewestChangesSpec : ChangeSpec := { name := "fnExactFewestChanges", fn := fun _ => fun
  | [d1, d2] => { results := [.lit (.bool true)], args := [d1, d2] }
  | _ => none }
def fnExactFewestChangesRow : OpenClaim := { program := "ytanlfkkmnnjpeaa", sum := "3609d9c157ccde43f6a56759516ff08381965afdc1ec129dd4c98d7339439607", func := "loop.example/g03306/laws.FnExactFewestChanges", spec := "fnExactFewestChanges", unfollowed := true, recurses := true, apart := false }
def FnExactFewestChangesSaid : Prop := fnExactFewestChangesRow.holds Try.pinned (OpenSpec.ofChange fnExactFewestChangesSpec)

/-- ITS FALSE NEIGHBOUR: 'it returns false'. Refute it at one input. -/
def fnExactFewestChangesWrong : ChangeSpec := { name := "fnExactFewestChanges", fn := fun _ => fun
  | [d1, d2] => { results := [.lit (.bool false)], args := [d1, d2] }
  | _ => none }
def FnExactFewestChangesWrongFalsely : Prop := fnExactFewestChangesRow.holds Try.pinned (OpenSpec.ofChange fnExactFewestChangesWrong)

/-- 'laws.FnExactBestNight': WHATEVER THE INPUT: true; the input reads as it did. -/
def fnExactBestNightSpec : ChangeSpec := { name := "fnExactBestNight", fn := fun _ => fun
  | [d1, d2] => { results := [.lit (.bool true)], args := [d1, d2] }
  | _ => none }
def fnExactBestNightRow : OpenClaim := { program := "ytanlfkkmnnjpeaa", sum := "3609d9c157ccde43f6a56759516ff08381965afdc1ec129dd4c98d7339439607", func := "loop.example/g03306/laws.FnExactBestNight", spec := "fnExactBestNight", unfollowed := true, recurses := true, apart := false }
def FnExactBestNightSaid : Prop := fnExactBestNightRow.holds Try.pinned (OpenSpec.ofChange fnExactBestNightSpec)

/-- ITS FALSE NEIGHBOUR: 'it returns false'. Refute it at one input. -/
def fnExactBestNightWrong : ChangeSpec := { name := "fnExactBestNight", fn := fun _ => fun
  | [d1, d2] => { results := [.lit (.bool false)], args := [d1, d2] }
  | _ => none }
def FnExactBestNightWrongFalsely : Prop := fnExactBestNightRow.holds Try.pinned (OpenSpec.ofChange fnExactBestNightWrong)

/-- 'laws.FnExactCountChanges': WHATEVER THE INPUT: true; the input reads as it did. -/
def fnExactCountChangesSpec : ChangeSpec := { name := "fnExactCountChanges", fn := fun _ => fun
  | [d1, d2] => { results := [.lit (.bool true)], args := [d1, d2] }
  | _ => none }
def fnExactCountChangesRow : OpenClaim := { program := "ytanlfkkmnnjpeaa", sum := "3609d9c157ccde43f6a56759516ff08381965afdc1ec129dd4c98d7339439607", func := "loop.example/g03306/laws.FnExactCountChanges", spec := "fnExactCountChanges", apart := false }
def FnExactCountChangesSaid : Prop := fnExactCountChangesRow.holds Try.pinned (OpenSpec.ofChange fnExactCountChangesSpec)

/-- ITS FALSE NEIGHBOUR: 'it returns false'. Refute it at one input. -/
def fnExactCountChangesWrong : ChangeSpec := { name := "fnExactCountChanges", fn := fun _ => fun
  | [d1, d2] => { results := [.lit (.bool false)], args := [d1, d2] }
  | _ => none }
def FnExactCountChangesWrongFalsely : Prop := fnExactCountChangesRow.holds Try.pinned (OpenSpec.ofChange fnExactCountChangesWrong)

/- THE SECOND FORM. 'bulk': how many values and letters a reading holds, each counted each time it is reached (what is shared counts as often as it is met; a slice's spare places count too). A statement '..UptoSaid' is the law's where the arguments, and the package variables that the reading takes, are together of bulk at most 1048576: NARROWER than '..Said'. Prove '..Said' where nothing that the law and all that it calls make is longer than what came in: it says more and counts as full. Else prove '..UptoSaid'. A law counts once. -/
mutual
def uptoBulk {H : Type} : DataW H → Nat
  | .lit (.string bytes) => bytes.length + 1
  | .lit _ => 1
  | .nil => 1
  | .ptr d => uptoBulk d + 1
  | .slice elems spare => uptoBulkAll elems + uptoBulkAll spare + 1
  | .agg parts => uptoBulkAll parts + 1
  | .iface _ d => uptoBulk d + 1
  | .map entries => uptoBulkEntries entries + 1
  | .held _ => 1
def uptoBulkAll {H : Type} : List (DataW H) → Nat
  | [] => 0
  | d :: r => uptoBulk d + uptoBulkAll r
def uptoBulkEntries {H : Type} : List (Lit × DataW H) → Nat
  | [] => 0
  | x :: r => uptoBulkEntry x + uptoBulkEntries r
def uptoBulkEntry {H : Type} : Lit × DataW H → Nat
  | (.string bytes, d) => bytes.length + uptoBulk d + 1
  | (_, d) => uptoBulk d + 1
 end
def uptoSmall : (H : Type) → List (DataW H) → Bool := fun _ ds => decide (uptoBulkAll ds ≤ 1048576)
def OpenSpec.upto (s : _root_.Go.ChangeSpec) : _root_.Go.OpenSpec := { _root_.Go.OpenSpec.ofChange s with cond := some uptoSmall }

/-- 'laws.FnChanges', WHERE WHAT IT READS IS OF BULK AT MOST 1048576: true; the input reads as it did. -/
def fnChangesUptoRow : OpenClaim := { program := "ytanlfkkmnnjpeaa", sum := "3609d9c157ccde43f6a56759516ff08381965afdc1ec129dd4c98d7339439607", func := "loop.example/g03306/laws.FnChanges", spec := "fnChanges", unfollowed := true, recurses := true, apart := false, narrowed := true }
def FnChangesUptoSaid : Prop := fnChangesUptoRow.holds Try.pinned (OpenSpec.upto fnChangesSpec)

/-- 'laws.FnExactNightOk', WHERE WHAT IT READS IS OF BULK AT MOST 1048576: true; the input reads as it did. -/
def fnExactNightOkUptoRow : OpenClaim := { program := "ytanlfkkmnnjpeaa", sum := "3609d9c157ccde43f6a56759516ff08381965afdc1ec129dd4c98d7339439607", func := "loop.example/g03306/laws.FnExactNightOk", spec := "fnExactNightOk", apart := false, narrowed := true }
def FnExactNightOkUptoSaid : Prop := fnExactNightOkUptoRow.holds Try.pinned (OpenSpec.upto fnExactNightOkSpec)

/-- 'laws.FnExactCastingsOf', WHERE WHAT IT READS IS OF BULK AT MOST 1048576: true; the input reads as it did. -/
def fnExactCastingsOfUptoRow : OpenClaim := { program := "ytanlfkkmnnjpeaa", sum := "3609d9c157ccde43f6a56759516ff08381965afdc1ec129dd4c98d7339439607", func := "loop.example/g03306/laws.FnExactCastingsOf", spec := "fnExactCastingsOf", apart := false, narrowed := true }
def FnExactCastingsOfUptoSaid : Prop := fnExactCastingsOfUptoRow.holds Try.pinned (OpenSpec.upto fnExactCastingsOfSpec)

/-- 'laws.FnExactChangesBetween', WHERE WHAT IT READS IS OF BULK AT MOST 1048576: true; the input reads as it did. -/
def fnExactChangesBetweenUptoRow : OpenClaim := { program := "ytanlfkkmnnjpeaa", sum := "3609d9c157ccde43f6a56759516ff08381965afdc1ec129dd4c98d7339439607", func := "loop.example/g03306/laws.FnExactChangesBetween", spec := "fnExactChangesBetween", apart := false, narrowed := true }
def FnExactChangesBetweenUptoSaid : Prop := fnExactChangesBetweenUptoRow.holds Try.pinned (OpenSpec.upto fnExactChangesBetweenSpec)

/-- 'laws.FnExactFewestChanges', WHERE WHAT IT READS IS OF BULK AT MOST 1048576: true; the input reads as it did. -/
def fnExactFewestChangesUptoRow : OpenClaim := { program := "ytanlfkkmnnjpeaa", sum := "3609d9c157ccde43f6a56759516ff08381965afdc1ec129dd4c98d7339439607", func := "loop.example/g03306/laws.FnExactFewestChanges", spec := "fnExactFewestChanges", unfollowed := true, recurses := true, apart := false, narrowed := true }
def FnExactFewestChangesUptoSaid : Prop := fnExactFewestChangesUptoRow.holds Try.pinned (OpenSpec.upto fnExactFewestChangesSpec)

/-- 'laws.FnExactBestNight', WHERE WHAT IT READS IS OF BULK AT MOST 1048576: true; the input reads as it did. -/
def fnExactBestNightUptoRow : OpenClaim := { program := "ytanlfkkmnnjpeaa", sum := "3609d9c157ccde43f6a56759516ff08381965afdc1ec129dd4c98d7339439607", func := "loop.example/g03306/laws.FnExactBestNight", spec := "fnExactBestNight", unfollowed := true, recurses := true, apart := false, narrowed := true }
def FnExactBestNightUptoSaid : Prop := fnExactBestNightUptoRow.holds Try.pinned (OpenSpec.upto fnExactBestNightSpec)

/-- 'laws.FnExactCountChanges', WHERE WHAT IT READS IS OF BULK AT MOST 1048576: true; the input reads as it did. -/
def fnExactCountChangesUptoRow : OpenClaim := { program := "ytanlfkkmnnjpeaa", sum := "3609d9c157ccde43f6a56759516ff08381965afdc1ec129dd4c98d7339439607", func := "loop.example/g03306/laws.FnExactCountChanges", spec := "fnExactCountChanges", apart := false, narrowed := true }
def FnExactCountChangesUptoSaid : Prop := fnExactCountChangesUptoRow.holds Try.pinned (OpenSpec.upto fnExactCountChangesSpec)

end Rows
end Go.Proofs.Ytanlfkkmnnjpeaa
