/-
  No cell of these rows narrows 'for every input' (looked for: loops, veiled, ifaces, maps, wideKeys, modest, calm, conditions, laid).
  DERIVED. THE GIVEN ROWS OF THIS SEAT. 6 by the template 'for every input the law returns true; each argument reads behind the call as it read before'; 0 by the template 'total and deterministic' (their statements: YtigiechidcndpaaTotals.lean).
  GIVEN WITH THE SEED: the statements are not yours to turn. If you find one false, say at which input.
  Laid BY PROGRAM, IN A SANDBOX (cutbox-rows.mjs): the forced cells as the released guide's own fill.sh prints them over the translation 3b533d908b9092ef… (all of the seat's roots in one cut). By AI agents, Wed Nov 11 2026. No macro, syntax, notation, axiom, sorry.
-/
import Derived.Test.YtigiechidcndpaaChecked
import GoSem.Claim
import GoSem.ClaimJoined
import GoSem.ClaimMapViews
import Derived.JoinedTies
import Derived.KernelRfl
namespace Go.Proofs.Ytigiechidcndpaa
/- THE CELL 'sum', in the pinned program and in every row, IS THE sha256 OF THE DUMP (.gsa) THAT YtigiechidcndpaaProg.lean LOADS. Nothing in Lean hashes anything: it is a label: what it is worth is what the hold of that sum in a sandbox is worth. -/
noncomputable def Try.pinned : Pinned := { name := "ytigiechidcndpaa", sum := "3b533d908b9092ef0b7bf86e627595b606746671d3beabc1ca9982b0ad4a3680", checked := Try.checked }
namespace Rows
def none {H : Type} : Left H := { results := [], args := [] }

/-- 'laws.FnControls': WHATEVER THE INPUT: true; the input reads as it did. -/
def fnControlsSpec : ChangeSpec := { name := "fnControls", fn := fun _ => fun
  | [d] => { results := [.lit (.bool true)], args := [d] }
  | _ => none }
def fnControlsRow : OpenClaim := { program := "ytigiechidcndpaa", sum := "3b533d908b9092ef0b7bf86e627595b606746671d3beabc1ca9982b0ad4a3680", func := "loop.example/g03306/laws.FnControls", spec := "fnControls", apart := false }
def FnControlsSaid : Prop := fnControlsRow.holds Try.pinned (OpenSpec.ofChange fnControlsSpec)

/-- ITS FALSE NEIGHBOUR: 'it returns false'. Refute it at one input. -/
def fnControlsWrong : ChangeSpec := { name := "fnControls", fn := fun _ => fun
  | [d] => { results := [.lit (.bool false)], args := [d] }
  | _ => none }
def FnControlsWrongFalsely : Prop := fnControlsRow.holds Try.pinned (OpenSpec.ofChange fnControlsWrong)

/-- 'laws.FnExactControlOk': WHATEVER THE INPUT: true; the input reads as it did. -/
def fnExactControlOkSpec : ChangeSpec := { name := "fnExactControlOk", fn := fun _ => fun
  | [d1, d2] => { results := [.lit (.bool true)], args := [d1, d2] }
  | _ => none }
def fnExactControlOkRow : OpenClaim := { program := "ytigiechidcndpaa", sum := "3b533d908b9092ef0b7bf86e627595b606746671d3beabc1ca9982b0ad4a3680", func := "loop.example/g03306/laws.FnExactControlOk", spec := "fnExactControlOk", apart := false }
def FnExactControlOkSaid : Prop := fnExactControlOkRow.holds Try.pinned (OpenSpec.ofChange fnExactControlOkSpec)

/-- ITS FALSE NEIGHBOUR: 'it returns false'. Refute it at one input. -/
def fnExactControlOkWrong : ChangeSpec := { name := "fnExactControlOk", fn := fun _ => fun
  | [d1, d2] => { results := [.lit (.bool false)], args := [d1, d2] }
  | _ => none }
def FnExactControlOkWrongFalsely : Prop := fnExactControlOkRow.holds Try.pinned (OpenSpec.ofChange fnExactControlOkWrong)

/-- 'laws.FnExactPullsOf': WHATEVER THE INPUT: true; the input reads as it did. -/
def fnExactPullsOfSpec : ChangeSpec := { name := "fnExactPullsOf", fn := fun _ => fun
  | [d1, d2] => { results := [.lit (.bool true)], args := [d1, d2] }
  | _ => none }
def fnExactPullsOfRow : OpenClaim := { program := "ytigiechidcndpaa", sum := "3b533d908b9092ef0b7bf86e627595b606746671d3beabc1ca9982b0ad4a3680", func := "loop.example/g03306/laws.FnExactPullsOf", spec := "fnExactPullsOf", apart := false }
def FnExactPullsOfSaid : Prop := fnExactPullsOfRow.holds Try.pinned (OpenSpec.ofChange fnExactPullsOfSpec)

/-- ITS FALSE NEIGHBOUR: 'it returns false'. Refute it at one input. -/
def fnExactPullsOfWrong : ChangeSpec := { name := "fnExactPullsOf", fn := fun _ => fun
  | [d1, d2] => { results := [.lit (.bool false)], args := [d1, d2] }
  | _ => none }
def FnExactPullsOfWrongFalsely : Prop := fnExactPullsOfRow.holds Try.pinned (OpenSpec.ofChange fnExactPullsOfWrong)

/-- 'laws.FnExactTiltArm': WHATEVER THE INPUT: true; the input reads as it did. -/
def fnExactTiltArmSpec : ChangeSpec := { name := "fnExactTiltArm", fn := fun _ => fun
  | [d1, d2, d3] => { results := [.lit (.bool true)], args := [d1, d2, d3] }
  | _ => none }
def fnExactTiltArmRow : OpenClaim := { program := "ytigiechidcndpaa", sum := "3b533d908b9092ef0b7bf86e627595b606746671d3beabc1ca9982b0ad4a3680", func := "loop.example/g03306/laws.FnExactTiltArm", spec := "fnExactTiltArm", apart := false }
def FnExactTiltArmSaid : Prop := fnExactTiltArmRow.holds Try.pinned (OpenSpec.ofChange fnExactTiltArmSpec)

/-- ITS FALSE NEIGHBOUR: 'it returns false'. Refute it at one input. -/
def fnExactTiltArmWrong : ChangeSpec := { name := "fnExactTiltArm", fn := fun _ => fun
  | [d1, d2, d3] => { results := [.lit (.bool false)], args := [d1, d2, d3] }
  | _ => none }
def FnExactTiltArmWrongFalsely : Prop := fnExactTiltArmRow.holds Try.pinned (OpenSpec.ofChange fnExactTiltArmWrong)

/-- 'laws.FnExactLiftControl': WHATEVER THE INPUT: true; the input reads as it did. -/
def fnExactLiftControlSpec : ChangeSpec := { name := "fnExactLiftControl", fn := fun _ => fun
  | [d1, d2] => { results := [.lit (.bool true)], args := [d1, d2] }
  | _ => none }
def fnExactLiftControlRow : OpenClaim := { program := "ytigiechidcndpaa", sum := "3b533d908b9092ef0b7bf86e627595b606746671d3beabc1ca9982b0ad4a3680", func := "loop.example/g03306/laws.FnExactLiftControl", spec := "fnExactLiftControl", apart := false }
def FnExactLiftControlSaid : Prop := fnExactLiftControlRow.holds Try.pinned (OpenSpec.ofChange fnExactLiftControlSpec)

/-- ITS FALSE NEIGHBOUR: 'it returns false'. Refute it at one input. -/
def fnExactLiftControlWrong : ChangeSpec := { name := "fnExactLiftControl", fn := fun _ => fun
  | [d1, d2] => { results := [.lit (.bool false)], args := [d1, d2] }
  | _ => none }
def FnExactLiftControlWrongFalsely : Prop := fnExactLiftControlRow.holds Try.pinned (OpenSpec.ofChange fnExactLiftControlWrong)

/-- 'laws.FnExactJointsHeld': WHATEVER THE INPUT: true; the input reads as it did. -/
def fnExactJointsHeldSpec : ChangeSpec := { name := "fnExactJointsHeld", fn := fun _ => fun
  | [d] => { results := [.lit (.bool true)], args := [d] }
  | _ => none }
def fnExactJointsHeldRow : OpenClaim := { program := "ytigiechidcndpaa", sum := "3b533d908b9092ef0b7bf86e627595b606746671d3beabc1ca9982b0ad4a3680", func := "loop.example/g03306/laws.FnExactJointsHeld", spec := "fnExactJointsHeld", apart := false }
def FnExactJointsHeldSaid : Prop := fnExactJointsHeldRow.holds Try.pinned (OpenSpec.ofChange fnExactJointsHeldSpec)

/-- ITS FALSE NEIGHBOUR: 'it returns false'. Refute it at one input. -/
def fnExactJointsHeldWrong : ChangeSpec := { name := "fnExactJointsHeld", fn := fun _ => fun
  | [d] => { results := [.lit (.bool false)], args := [d] }
  | _ => none }
def FnExactJointsHeldWrongFalsely : Prop := fnExactJointsHeldRow.holds Try.pinned (OpenSpec.ofChange fnExactJointsHeldWrong)

/- THE SECOND FORM. 'bulk': how many values and letters a reading holds, each counted each time it is reached (what is shared counts as often as it is met; a slice's spare places count too). A statement '..UptoSaid' is the law's where the arguments, and the package variables that the reading takes, are together of bulk at most 1048576: NARROWER than '..Said'. Prove '..Said' where nothing that the law and all that it calls make is longer than what came in: it says more and counts as full. Else prove '..UptoSaid'. A law counts once. -/
mutual
def uptoBulk {H : Type} : DataW H → Nat
  | .lit (.string bytes) => bytes.length + 1
  | .lit _ => 1
  | .nil => 1
  | .ptr d => uptoBulk d + 1
  | .slice elems spare => uptoBulkAll elems + uptoBulkAll spare + 1
  | .agg parts => uptoBulkAll parts + 1
  | .iface _ d => uptoBulk d + 1
  | .map entries => uptoBulkEntries entries + 1
  | .held _ => 1
def uptoBulkAll {H : Type} : List (DataW H) → Nat
  | [] => 0
  | d :: r => uptoBulk d + uptoBulkAll r
def uptoBulkEntries {H : Type} : List (Lit × DataW H) → Nat
  | [] => 0
  | x :: r => uptoBulkEntry x + uptoBulkEntries r
def uptoBulkEntry {H : Type} : Lit × DataW H → Nat
  | (.string bytes, d) => bytes.length + uptoBulk d + 1
  | (_, d) => uptoBulk d + 1
 end
def uptoSmall : (H : Type) → List (DataW H) → Bool := fun _ ds => decide (uptoBulkAll ds ≤ 1048576)
def OpenSpec.upto (s : _root_.Go.ChangeSpec) : _root_.Go.OpenSpec := { _root_.Go.OpenSpec.ofChange s with cond := some uptoSmall }

/-- 'laws.FnControls', WHERE WHAT IT READS IS OF BULK AT MOST 1048576: true; the input reads as it did. -/
def fnControlsUptoRow : OpenClaim := { program := "ytigiechidcndpaa", sum := "3b533d908b9092ef0b7bf86e627595b606746671d3beabc1ca9982b0ad4a3680", func := "loop.example/g03306/laws.FnControls", spec := "fnControls", apart := false, narrowed := true }
def FnControlsUptoSaid : Prop := fnControlsUptoRow.holds Try.pinned (OpenSpec.upto fnControlsSpec)

/-- 'laws.FnExactControlOk', WHERE WHAT IT READS IS OF BULK AT MOST 1048576: true; the input reads as it did. -/
def fnExactControlOkUptoRow : OpenClaim := { program := "ytigiechidcndpaa", sum := "3b533d908b9092ef0b7bf86e627595b606746671d3beabc1ca9982b0ad4a3680", func := "loop.example/g03306/laws.FnExactControlOk", spec := "fnExactControlOk", apart := false, narrowed := true }
def FnExactControlOkUptoSaid : Prop := fnExactControlOkUptoRow.holds Try.pinned (OpenSpec.upto fnExactControlOkSpec)

/-- 'laws.FnExactPullsOf', WHERE WHAT IT READS IS OF BULK AT MOST 1048576: true; the input reads as it did. -/
def fnExactPullsOfUptoRow : OpenClaim := { program := "ytigiechidcndpaa", sum := "3b533d908b9092ef0b7bf86e627595b606746671d3beabc1ca9982b0ad4a3680", func := "loop.example/g03306/laws.FnExactPullsOf", spec := "fnExactPullsOf", apart := false, narrowed := true }
def FnExactPullsOfUptoSaid : Prop := fnExactPullsOfUptoRow.holds Try.pinned (OpenSpec.upto fnExactPullsOfSpec)

/-- 'laws.FnExactTiltArm', WHERE WHAT IT READS IS OF BULK AT MOST 1048576: true; the input reads as it did. -/
def fnExactTiltArmUptoRow : OpenClaim := { program := "ytigiechidcndpaa", sum := "3b533d908b9092ef0b7bf86e627595b606746671d3beabc1ca9982b0ad4a3680", func := "loop.example/g03306/laws.FnExactTiltArm", spec := "fnExactTiltArm", apart := false, narrowed := true }
def FnExactTiltArmUptoSaid : Prop := fnExactTiltArmUptoRow.holds Try.pinned (OpenSpec.upto fnExactTiltArmSpec)

/-- 'laws.FnExactLiftControl', WHERE WHAT IT READS IS OF BULK AT MOST 1048576: true; the input reads as it did. -/
def fnExactLiftControlUptoRow : OpenClaim := { program := "ytigiechidcndpaa", sum := "3b533d908b9092ef0b7bf86e627595b606746671d3beabc1ca9982b0ad4a3680", func := "loop.example/g03306/laws.FnExactLiftControl", spec := "fnExactLiftControl", apart := false, narrowed := true }
def FnExactLiftControlUptoSaid : Prop := fnExactLiftControlUptoRow.holds Try.pinned (OpenSpec.upto fnExactLiftControlSpec)

/-- 'laws.FnExactJointsHeld', WHERE WHAT IT READS IS OF BULK AT MOST 1048576: true; the input reads as it did. -/
def fnExactJointsHeldUptoRow : OpenClaim := { program := "ytigiechidcndpaa", sum := "3b533d908b9092ef0b7bf86e627595b606746671d3beabc1ca9982b0ad4a3680", func := "loop.example/g03306/laws.FnExactJointsHeld", spec := "fnExactJointsHeld", apart := false, narrowed := true }
def FnExactJointsHeldUptoSaid : Prop := fnExactJointsHeldUptoRow.holds Try.pinned (OpenSpec.upto fnExactJointsHeldSpec)

end Rows
end Go.Proofs.Ytigiechidcndpaa
