/-
  No cell of these rows narrows 'for every input' (looked for: loops, veiled, ifaces, maps, wideKeys, modest, calm, conditions, laid).
  DERIVED. THE GIVEN ROWS OF THIS SEAT. 7 by the template 'for every input the law returns true; each argument reads behind the call as it read before'; 0 by the template 'total and deterministic' (their statements: YtbgogcobkiaejacTotals.lean).
  GIVEN WITH THE SEED: the statements are not yours to turn. If you find one false, say at which input.
  Laid BY PROGRAM, IN A SANDBOX (cutbox-rows.mjs): the forced cells as the released guide's own fill.sh prints them over the translation b75f3b57ee841a15… (all of the seat's roots in one cut). By AI agents, Wed Nov 11 2026. No macro, syntax, notation, axiom, sorry.
-/
import Derived.Test.YtbgogcobkiaejacChecked
import GoSem.Claim
import GoSem.ClaimJoined
import GoSem.ClaimMapViews
import Derived.JoinedTies
import Derived.KernelRfl
namespace Go.Proofs.Ytbgogcobkiaejac
/- THE CELL 'sum', in the pinned program and in every row, IS THE sha256 OF THE DUMP (.gsa) THAT YtbgogcobkiaejacProg.lean LOADS. Nothing in Lean hashes anything: it is a label: what it is worth is what the hold of that sum in a sandbox is worth. -/
noncomputable def Try.pinned : Pinned := { name := "ytbgogcobkiaejac", sum := "b75f3b57ee841a15f903d3611b35e4d1adef8798f2348c80afae8104c0b250c7", checked := Try.checked }
namespace Rows
def none {H : Type} : Left H := { results := [], args := [] }

/-- 'laws.FnTimes': WHATEVER THE INPUT: true; the input reads as it did. -/
def fnTimesSpec : ChangeSpec := { name := "fnTimes", fn := fun _ => fun
  | [d] => { results := [.lit (.bool true)], args := [d] }
  | _ => none }
def fnTimesRow : OpenClaim := { program := "ytbgogcobkiaejac", sum := "b75f3b57ee841a15f903d3611b35e4d1adef8798f2348c80afae8104c0b250c7", func := "loop.example/g03306/laws.FnTimes", spec := "fnTimes", unfollowed := true, recurses := true, apart := false }
def FnTimesSaid : Prop := fnTimesRow.holds Try.pinned (OpenSpec.ofChange fnTimesSpec)

/-- ITS FALSE NEIGHBOUR: 'it returns false'. Refute it at one input. -/
def fnTimesWrong : ChangeSpec := { name := "fnTimes", fn := fun _ => fun
  | [d] => { results := [.lit (.bool false)], args := [d] }
  | _ => none }
def FnTimesWrongFalsely : Prop := fnTimesRow.holds Try.pinned (OpenSpec.ofChange fnTimesWrong)

/-- 'laws.FnExactStartsOf': WHATEVER THE INPUT: true; the input reads as it did. -/
def fnExactStartsOfSpec : ChangeSpec := { name := "fnExactStartsOf", fn := fun _ => fun
  | [d] => { results := [.lit (.bool true)], args := [d] }
  | _ => none }
def fnExactStartsOfRow : OpenClaim := { program := "ytbgogcobkiaejac", sum := "b75f3b57ee841a15f903d3611b35e4d1adef8798f2348c80afae8104c0b250c7", func := "loop.example/g03306/laws.FnExactStartsOf", spec := "fnExactStartsOf", unfollowed := true, recurses := true, apart := false }
def FnExactStartsOfSaid : Prop := fnExactStartsOfRow.holds Try.pinned (OpenSpec.ofChange fnExactStartsOfSpec)

/-- ITS FALSE NEIGHBOUR: 'it returns false'. Refute it at one input. -/
def fnExactStartsOfWrong : ChangeSpec := { name := "fnExactStartsOf", fn := fun _ => fun
  | [d] => { results := [.lit (.bool false)], args := [d] }
  | _ => none }
def FnExactStartsOfWrongFalsely : Prop := fnExactStartsOfRow.holds Try.pinned (OpenSpec.ofChange fnExactStartsOfWrong)

/-- 'laws.FnExactPlayTime': WHATEVER THE INPUT: true; the input reads as it did. -/
def fnExactPlayTimeSpec : ChangeSpec := { name := "fnExactPlayTime", fn := fun _ => fun
  | [d] => { results := [.lit (.bool true)], args := [d] }
  | _ => none }
def fnExactPlayTimeRow : OpenClaim := { program := "ytbgogcobkiaejac", sum := "b75f3b57ee841a15f903d3611b35e4d1adef8798f2348c80afae8104c0b250c7", func := "loop.example/g03306/laws.FnExactPlayTime", spec := "fnExactPlayTime", unfollowed := true, recurses := true, apart := false }
def FnExactPlayTimeSaid : Prop := fnExactPlayTimeRow.holds Try.pinned (OpenSpec.ofChange fnExactPlayTimeSpec)

/-- ITS FALSE NEIGHBOUR: 'it returns false'. Refute it at one input. -/
def fnExactPlayTimeWrong : ChangeSpec := { name := "fnExactPlayTime", fn := fun _ => fun
  | [d] => { results := [.lit (.bool false)], args := [d] }
  | _ => none }
def FnExactPlayTimeWrongFalsely : Prop := fnExactPlayTimeRow.holds Try.pinned (OpenSpec.ofChange fnExactPlayTimeWrong)

/-- 'laws.FnExactLatestStarts': WHATEVER THE INPUT: true; the input reads as it did. -/
def fnExactLatestStartsSpec : ChangeSpec := { name := "fnExactLatestStarts", fn := fun _ => fun
  | [d] => { results := [.lit (.bool true)], args := [d] }
  | _ => none }
def fnExactLatestStartsRow : OpenClaim := { program := "ytbgogcobkiaejac", sum := "b75f3b57ee841a15f903d3611b35e4d1adef8798f2348c80afae8104c0b250c7", func := "loop.example/g03306/laws.FnExactLatestStarts", spec := "fnExactLatestStarts", unfollowed := true, recurses := true, apart := false }
def FnExactLatestStartsSaid : Prop := fnExactLatestStartsRow.holds Try.pinned (OpenSpec.ofChange fnExactLatestStartsSpec)

/-- ITS FALSE NEIGHBOUR: 'it returns false'. Refute it at one input. -/
def fnExactLatestStartsWrong : ChangeSpec := { name := "fnExactLatestStarts", fn := fun _ => fun
  | [d] => { results := [.lit (.bool false)], args := [d] }
  | _ => none }
def FnExactLatestStartsWrongFalsely : Prop := fnExactLatestStartsRow.holds Try.pinned (OpenSpec.ofChange fnExactLatestStartsWrong)

/-- 'laws.FnExactClashesIn': WHATEVER THE INPUT: true; the input reads as it did. -/
def fnExactClashesInSpec : ChangeSpec := { name := "fnExactClashesIn", fn := fun _ => fun
  | [d1, d2] => { results := [.lit (.bool true)], args := [d1, d2] }
  | _ => none }
def fnExactClashesInRow : OpenClaim := { program := "ytbgogcobkiaejac", sum := "b75f3b57ee841a15f903d3611b35e4d1adef8798f2348c80afae8104c0b250c7", func := "loop.example/g03306/laws.FnExactClashesIn", spec := "fnExactClashesIn", recurses := true, apart := false }
def FnExactClashesInSaid : Prop := fnExactClashesInRow.holds Try.pinned (OpenSpec.ofChange fnExactClashesInSpec)

/-- ITS FALSE NEIGHBOUR: 'it returns false'. Refute it at one input. -/
def fnExactClashesInWrong : ChangeSpec := { name := "fnExactClashesIn", fn := fun _ => fun
  | [d1, d2] => { results := [.lit (.bool false)], args := [d1, d2] }
  | _ => none }
def FnExactClashesInWrongFalsely : Prop := fnExactClashesInRow.holds Try.pinned (OpenSpec.ofChange fnExactClashesInWrong)

/-- 'laws.FnExactIsPlan': WHATEVER THE INPUT: true; the input reads as it did. -/
def fnExactIsPlanSpec : ChangeSpec := { name := "fnExactIsPlan", fn := fun _ => fun
  | [d1, d2] => { results := [.lit (.bool true)], args := [d1, d2] }
  | _ => none }
def fnExactIsPlanRow : OpenClaim := { program := "ytbgogcobkiaejac", sum := "b75f3b57ee841a15f903d3611b35e4d1adef8798f2348c80afae8104c0b250c7", func := "loop.example/g03306/laws.FnExactIsPlan", spec := "fnExactIsPlan", recurses := true, apart := false }
def FnExactIsPlanSaid : Prop := fnExactIsPlanRow.holds Try.pinned (OpenSpec.ofChange fnExactIsPlanSpec)

/-- ITS FALSE NEIGHBOUR: 'it returns false'. Refute it at one input. -/
def fnExactIsPlanWrong : ChangeSpec := { name := "fnExactIsPlan", fn := fun _ => fun
  | [d1, d2] => { results := [.lit (.bool false)], args := [d1, d2] }
  | _ => none }
def FnExactIsPlanWrongFalsely : Prop := fnExactIsPlanRow.holds Try.pinned (OpenSpec.ofChange fnExactIsPlanWrong)

/-- 'laws.FnExactSimplePlan': WHATEVER THE INPUT: true; the input reads as it did. -/
def fnExactSimplePlanSpec : ChangeSpec := { name := "fnExactSimplePlan", fn := fun _ => fun
  | [d] => { results := [.lit (.bool true)], args := [d] }
  | _ => none }
def fnExactSimplePlanRow : OpenClaim := { program := "ytbgogcobkiaejac", sum := "b75f3b57ee841a15f903d3611b35e4d1adef8798f2348c80afae8104c0b250c7", func := "loop.example/g03306/laws.FnExactSimplePlan", spec := "fnExactSimplePlan", unfollowed := true, recurses := true, apart := false }
def FnExactSimplePlanSaid : Prop := fnExactSimplePlanRow.holds Try.pinned (OpenSpec.ofChange fnExactSimplePlanSpec)

/-- ITS FALSE NEIGHBOUR: 'it returns false'. Refute it at one input. -/
def fnExactSimplePlanWrong : ChangeSpec := { name := "fnExactSimplePlan", fn := fun _ => fun
  | [d] => { results := [.lit (.bool false)], args := [d] }
  | _ => none }
def FnExactSimplePlanWrongFalsely : Prop := fnExactSimplePlanRow.holds Try.pinned (OpenSpec.ofChange fnExactSimplePlanWrong)

/- THE SECOND FORM. 'bulk': how many values and letters a reading holds, each counted each time it is reached (what is shared counts as often as it is met; a slice's spare places count too). A statement '..UptoSaid' is the law's where the arguments, and the package variables that the reading takes, are together of bulk at most 1048576: NARROWER than '..Said'. Prove '..Said' where nothing that the law and all that it calls make is longer than what came in: it says more and counts as full. Else prove '..UptoSaid'. A law counts once. -/
mutual
def uptoBulk {H : Type} : DataW H → Nat
  | .lit (.string bytes) => bytes.length + 1
  | .lit _ => 1
  | .nil => 1
  | .ptr d => uptoBulk d + 1
  | .slice elems spare => uptoBulkAll elems + uptoBulkAll spare + 1
  | .agg parts => uptoBulkAll parts + 1
  | .iface _ d => uptoBulk d + 1
  | .map entries => uptoBulkEntries entries + 1
  | .held _ => 1
def uptoBulkAll {H : Type} : List (DataW H) → Nat
  | [] => 0
  | d :: r => uptoBulk d + uptoBulkAll r
def uptoBulkEntries {H : Type} : List (Lit × DataW H) → Nat
  | [] => 0
  | x :: r => uptoBulkEntry x + uptoBulkEntries r
def uptoBulkEntry {H : Type} : Lit × DataW H → Nat
  | (.string bytes, d) => bytes.length + uptoBulk d + 1
  | (_, d) => uptoBulk d + 1
 end
def uptoSmall : (H : Type) → List (DataW H) → Bool := fun _ ds => decide (uptoBulkAll ds ≤ 1048576)
def OpenSpec.upto (s : _root_.Go.ChangeSpec) : _root_.Go.OpenSpec := { _root_.Go.OpenSpec.ofChange s with cond := some uptoSmall }

/-- 'laws.FnTimes', WHERE WHAT IT READS IS OF BULK AT MOST 1048576: true; the input reads as it did. -/
def fnTimesUptoRow : OpenClaim := { program := "ytbgogcobkiaejac", sum := "b75f3b57ee841a15f903d3611b35e4d1adef8798f2348c80afae8104c0b250c7", func := "loop.example/g03306/laws.FnTimes", spec := "fnTimes", unfollowed := true, recurses := true, apart := false, narrowed := true }
def FnTimesUptoSaid : Prop := fnTimesUptoRow.holds Try.pinned (OpenSpec.upto fnTimesSpec)

/-- 'laws.FnExactStartsOf', WHERE WHAT IT READS IS OF BULK AT MOST 1048576: true; the input reads as it did. -/
def fnExactStartsOfUptoRow : OpenClaim := { program := "ytbgogcobkiaejac", sum := "b75f3b57ee841a15f903d3611b35e4d1adef8798f2348c80afae8104c0b250c7", func := "loop.example/g03306/laws.FnExactStartsOf", spec := "fnExactStartsOf", unfollowed := true, recurses := true, apart := false, narrowed := true }
def FnExactStartsOfUptoSaid : Prop := fnExactStartsOfUptoRow.holds Try.pinned (OpenSpec.upto fnExactStartsOfSpec)

/-- 'laws.FnExactPlayTime', WHERE WHAT IT READS IS OF BULK AT MOST 1048576: true; the input reads as it did. -/
def fnExactPlayTimeUptoRow : OpenClaim := { program := "ytbgogcobkiaejac", sum := "b75f3b57ee841a15f903d3611b35e4d1adef8798f2348c80afae8104c0b250c7", func := "loop.example/g03306/laws.FnExactPlayTime", spec := "fnExactPlayTime", unfollowed := true, recurses := true, apart := false, narrowed := true }
def FnExactPlayTimeUptoSaid : Prop := fnExactPlayTimeUptoRow.holds Try.pinned (OpenSpec.upto fnExactPlayTimeSpec)

/-- 'laws.FnExactLatestStarts', WHERE WHAT IT READS IS OF BULK AT MOST 1048576: true; the input reads as it did. -/
def fnExactLatestStartsUptoRow : OpenClaim := { program := "ytbgogcobkiaejac", sum := "b75f3b57ee841a15f903d3611b35e4d1adef8798f2348c80afae8104c0b250c7", func := "loop.example/g03306/laws.FnExactLatestStarts", spec := "fnExactLatestStarts", unfollowed := true, recurses := true, apart := false, narrowed := true }
def FnExactLatestStartsUptoSaid : Prop := fnExactLatestStartsUptoRow.holds Try.pinned (OpenSpec.upto fnExactLatestStartsSpec)

/-- 'laws.FnExactClashesIn', WHERE WHAT IT READS IS OF BULK AT MOST 1048576: true; the input reads as it did. -/
def fnExactClashesInUptoRow : OpenClaim := { program := "ytbgogcobkiaejac", sum := "b75f3b57ee841a15f903d3611b35e4d1adef8798f2348c80afae8104c0b250c7", func := "loop.example/g03306/laws.FnExactClashesIn", spec := "fnExactClashesIn", recurses := true, apart := false, narrowed := true }
def FnExactClashesInUptoSaid : Prop := fnExactClashesInUptoRow.holds Try.pinned (OpenSpec.upto fnExactClashesInSpec)

/-- 'laws.FnExactIsPlan', WHERE WHAT IT READS IS OF BULK AT MOST 1048576: true; the input reads as it did. -/
def fnExactIsPlanUptoRow : OpenClaim := { program := "ytbgogcobkiaejac", sum := "b75f3b57ee841a15f903d3611b35e4d1adef8798f2348c80afae8104c0b250c7", func := "loop.example/g03306/laws.FnExactIsPlan", spec := "fnExactIsPlan", recurses := true, apart := false, narrowed := true }
def FnExactIsPlanUptoSaid : Prop := fnExactIsPlanUptoRow.holds Try.pinned (OpenSpec.upto fnExactIsPlanSpec)

/-- 'laws.FnExactSimplePlan', WHERE WHAT IT READS IS OF BULK AT MOST 1048576: true; the input reads as it did. -/
def fnExactSimplePlanUptoRow : OpenClaim := { program := "ytbgogcobkiaejac", sum := "b75f3b57ee841a15f903d3611b35e4d1adef8798f2348c80afae8104c0b250c7", func := "loop.example/g03306/laws.FnExactSimplePlan", spec := "fnExactSimplePlan", unfollowed := true, recurses := true, apart := false, narrowed := true }
def FnExactSimplePlanUptoSaid : Prop := fnExactSimplePlanUptoRow.holds Try.pinned (OpenSpec.upto fnExactSimplePlanSpec)

end Rows
end Go.Proofs.Ytbgogcobkiaejac
