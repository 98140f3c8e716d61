/-
  No cell of these rows narrows 'for every input' (looked for: loops, veiled, ifaces, maps, wideKeys, modest, calm, conditions, laid).
  DERIVED. THE GIVEN ROWS OF THIS SEAT. 7 by the template 'for every input the law returns true; each argument reads behind the call as it read before'; 0 by the template 'total and deterministic' (their statements: YtdbpejjbinbiiaaTotals.lean).
  GIVEN WITH THE SEED: the statements are not yours to turn. If you find one false, say at which input.
  Laid BY PROGRAM, IN A SANDBOX (cutbox-rows.mjs): the forced cells as the released guide's own fill.sh prints them over the translation 29a8f4acecc1d201… (all of the seat's roots in one cut). By AI agents, Wed Nov 11 2026. No macro, syntax, notation, axiom, sorry.
-/
import Derived.Test.YtdbpejjbinbiiaaChecked
import GoSem.Claim
import GoSem.ClaimJoined
import GoSem.ClaimMapViews
import Derived.JoinedTies
import Derived.KernelRfl
namespace Go.Proofs.Ytdbpejjbinbiiaa
/- THE CELL 'sum', in the pinned program and in every row, IS THE sha256 OF THE DUMP (.gsa) THAT YtdbpejjbinbiiaaProg.lean LOADS. Nothing in Lean hashes anything: it is a label: what it is worth is what the hold of that sum in a sandbox is worth. -/
noncomputable def Try.pinned : Pinned := { name := "ytdbpejjbinbiiaa", sum := "29a8f4acecc1d2019c5c6e0638aff2b29cd6259d7b951ce373ef7c78103c5fc7", checked := Try.checked }
namespace Rows
def none {H : Type} : Left H := { results := [], args := [] }

/-- 'laws.FnGestures': WHATEVER THE INPUT: true; the input reads as it did. -/
def fnGesturesSpec : ChangeSpec := { name := "fnGestures", fn := fun _ => fun
  | [d] => { results := [.lit (.bool true)], args := [d] }
  | _ => none }
def fnGesturesRow : OpenClaim := { program := "ytdbpejjbinbiiaa", sum := "29a8f4acecc1d2019c5c6e0638aff2b29cd6259d7b951ce373ef7c78103c5fc7", func := "loop.example/g03306/laws.FnGestures", spec := "fnGestures", unfollowed := true, recurses := true, leaving := true, apart := false }
def FnGesturesSaid : Prop := fnGesturesRow.holds Try.pinned (OpenSpec.ofChange fnGesturesSpec)

/-- ITS FALSE NEIGHBOUR: 'it returns false'. Refute it at one input. -/
def fnGesturesWrong : ChangeSpec := { name := "fnGestures", fn := fun _ => fun
  | [d] => { results := [.lit (.bool false)], args := [d] }
  | _ => none }
def FnGesturesWrongFalsely : Prop := fnGesturesRow.holds Try.pinned (OpenSpec.ofChange fnGesturesWrong)

/-- 'laws.FnExactStepSize': WHATEVER THE INPUT: true; the input reads as it did. -/
def fnExactStepSizeSpec : ChangeSpec := { name := "fnExactStepSize", fn := fun _ => fun
  | [d1, d2] => { results := [.lit (.bool true)], args := [d1, d2] }
  | _ => none }
def fnExactStepSizeRow : OpenClaim := { program := "ytdbpejjbinbiiaa", sum := "29a8f4acecc1d2019c5c6e0638aff2b29cd6259d7b951ce373ef7c78103c5fc7", func := "loop.example/g03306/laws.FnExactStepSize", spec := "fnExactStepSize", apart := false }
def FnExactStepSizeSaid : Prop := fnExactStepSizeRow.holds Try.pinned (OpenSpec.ofChange fnExactStepSizeSpec)

/-- ITS FALSE NEIGHBOUR: 'it returns false'. Refute it at one input. -/
def fnExactStepSizeWrong : ChangeSpec := { name := "fnExactStepSize", fn := fun _ => fun
  | [d1, d2] => { results := [.lit (.bool false)], args := [d1, d2] }
  | _ => none }
def FnExactStepSizeWrongFalsely : Prop := fnExactStepSizeRow.holds Try.pinned (OpenSpec.ofChange fnExactStepSizeWrong)

/-- 'laws.FnExactIsGesture': WHATEVER THE INPUT: true; the input reads as it did. -/
def fnExactIsGestureSpec : ChangeSpec := { name := "fnExactIsGesture", fn := fun _ => fun
  | [d1, d2, d3] => { results := [.lit (.bool true)], args := [d1, d2, d3] }
  | _ => none }
def fnExactIsGestureRow : OpenClaim := { program := "ytdbpejjbinbiiaa", sum := "29a8f4acecc1d2019c5c6e0638aff2b29cd6259d7b951ce373ef7c78103c5fc7", func := "loop.example/g03306/laws.FnExactIsGesture", spec := "fnExactIsGesture", recurses := true, apart := false }
def FnExactIsGestureSaid : Prop := fnExactIsGestureRow.holds Try.pinned (OpenSpec.ofChange fnExactIsGestureSpec)

/-- ITS FALSE NEIGHBOUR: 'it returns false'. Refute it at one input. -/
def fnExactIsGestureWrong : ChangeSpec := { name := "fnExactIsGesture", fn := fun _ => fun
  | [d1, d2, d3] => { results := [.lit (.bool false)], args := [d1, d2, d3] }
  | _ => none }
def FnExactIsGestureWrongFalsely : Prop := fnExactIsGestureRow.holds Try.pinned (OpenSpec.ofChange fnExactIsGestureWrong)

/-- 'laws.FnExactMiddlePose': WHATEVER THE INPUT: true; the input reads as it did. -/
def fnExactMiddlePoseSpec : ChangeSpec := { name := "fnExactMiddlePose", fn := fun _ => fun
  | [d1, d2] => { results := [.lit (.bool true)], args := [d1, d2] }
  | _ => none }
def fnExactMiddlePoseRow : OpenClaim := { program := "ytdbpejjbinbiiaa", sum := "29a8f4acecc1d2019c5c6e0638aff2b29cd6259d7b951ce373ef7c78103c5fc7", func := "loop.example/g03306/laws.FnExactMiddlePose", spec := "fnExactMiddlePose", unfollowed := true, recurses := true, leaving := true, apart := false }
def FnExactMiddlePoseSaid : Prop := fnExactMiddlePoseRow.holds Try.pinned (OpenSpec.ofChange fnExactMiddlePoseSpec)

/-- ITS FALSE NEIGHBOUR: 'it returns false'. Refute it at one input. -/
def fnExactMiddlePoseWrong : ChangeSpec := { name := "fnExactMiddlePose", fn := fun _ => fun
  | [d1, d2] => { results := [.lit (.bool false)], args := [d1, d2] }
  | _ => none }
def FnExactMiddlePoseWrongFalsely : Prop := fnExactMiddlePoseRow.holds Try.pinned (OpenSpec.ofChange fnExactMiddlePoseWrong)

/-- 'laws.FnExactSmoothed': WHATEVER THE INPUT: true; the input reads as it did. -/
def fnExactSmoothedSpec : ChangeSpec := { name := "fnExactSmoothed", fn := fun _ => fun
  | [d1, d2, d3, d4] => { results := [.lit (.bool true)], args := [d1, d2, d3, d4] }
  | _ => none }
def fnExactSmoothedRow : OpenClaim := { program := "ytdbpejjbinbiiaa", sum := "29a8f4acecc1d2019c5c6e0638aff2b29cd6259d7b951ce373ef7c78103c5fc7", func := "loop.example/g03306/laws.FnExactSmoothed", spec := "fnExactSmoothed", unfollowed := true, recurses := true, leaving := true, apart := false }
def FnExactSmoothedSaid : Prop := fnExactSmoothedRow.holds Try.pinned (OpenSpec.ofChange fnExactSmoothedSpec)

/-- ITS FALSE NEIGHBOUR: 'it returns false'. Refute it at one input. -/
def fnExactSmoothedWrong : ChangeSpec := { name := "fnExactSmoothed", fn := fun _ => fun
  | [d1, d2, d3, d4] => { results := [.lit (.bool false)], args := [d1, d2, d3, d4] }
  | _ => none }
def FnExactSmoothedWrongFalsely : Prop := fnExactSmoothedRow.holds Try.pinned (OpenSpec.ofChange fnExactSmoothedWrong)

/-- 'laws.FnExactHighestPose': WHATEVER THE INPUT: true; the input reads as it did. -/
def fnExactHighestPoseSpec : ChangeSpec := { name := "fnExactHighestPose", fn := fun _ => fun
  | [d1, d2] => { results := [.lit (.bool true)], args := [d1, d2] }
  | _ => none }
def fnExactHighestPoseRow : OpenClaim := { program := "ytdbpejjbinbiiaa", sum := "29a8f4acecc1d2019c5c6e0638aff2b29cd6259d7b951ce373ef7c78103c5fc7", func := "loop.example/g03306/laws.FnExactHighestPose", spec := "fnExactHighestPose", unfollowed := true, recurses := true, leaving := true, apart := false }
def FnExactHighestPoseSaid : Prop := fnExactHighestPoseRow.holds Try.pinned (OpenSpec.ofChange fnExactHighestPoseSpec)

/-- ITS FALSE NEIGHBOUR: 'it returns false'. Refute it at one input. -/
def fnExactHighestPoseWrong : ChangeSpec := { name := "fnExactHighestPose", fn := fun _ => fun
  | [d1, d2] => { results := [.lit (.bool false)], args := [d1, d2] }
  | _ => none }
def FnExactHighestPoseWrongFalsely : Prop := fnExactHighestPoseRow.holds Try.pinned (OpenSpec.ofChange fnExactHighestPoseWrong)

/-- 'laws.FnExactLowerPose': WHATEVER THE INPUT: true; the input reads as it did. -/
def fnExactLowerPoseSpec : ChangeSpec := { name := "fnExactLowerPose", fn := fun _ => fun
  | [d1, d2] => { results := [.lit (.bool true)], args := [d1, d2] }
  | _ => none }
def fnExactLowerPoseRow : OpenClaim := { program := "ytdbpejjbinbiiaa", sum := "29a8f4acecc1d2019c5c6e0638aff2b29cd6259d7b951ce373ef7c78103c5fc7", func := "loop.example/g03306/laws.FnExactLowerPose", spec := "fnExactLowerPose", unfollowed := true, recurses := true, leaving := true, apart := false }
def FnExactLowerPoseSaid : Prop := fnExactLowerPoseRow.holds Try.pinned (OpenSpec.ofChange fnExactLowerPoseSpec)

/-- ITS FALSE NEIGHBOUR: 'it returns false'. Refute it at one input. -/
def fnExactLowerPoseWrong : ChangeSpec := { name := "fnExactLowerPose", fn := fun _ => fun
  | [d1, d2] => { results := [.lit (.bool false)], args := [d1, d2] }
  | _ => none }
def FnExactLowerPoseWrongFalsely : Prop := fnExactLowerPoseRow.holds Try.pinned (OpenSpec.ofChange fnExactLowerPoseWrong)

/- THE SECOND FORM. 'bulk': how many values and letters a reading holds, each counted each time it is reached (what is shared counts as often as it is met; a slice's spare places count too). A statement '..UptoSaid' is the law's where the arguments, and the package variables that the reading takes, are together of bulk at most 1048576: NARROWER than '..Said'. Prove '..Said' where nothing that the law and all that it calls make is longer than what came in: it says more and counts as full. Else prove '..UptoSaid'. A law counts once. -/
mutual
def uptoBulk {H : Type} : DataW H → Nat
  | .lit (.string bytes) => bytes.length + 1
  | .lit _ => 1
  | .nil => 1
  | .ptr d => uptoBulk d + 1
  | .slice elems spare => uptoBulkAll elems + uptoBulkAll spare + 1
  | .agg parts => uptoBulkAll parts + 1
  | .iface _ d => uptoBulk d + 1
  | .map entries => uptoBulkEntries entries + 1
  | .held _ => 1
def uptoBulkAll {H : Type} : List (DataW H) → Nat
  | [] => 0
  | d :: r => uptoBulk d + uptoBulkAll r
def uptoBulkEntries {H : Type} : List (Lit × DataW H) → Nat
  | [] => 0
  | x :: r => uptoBulkEntry x + uptoBulkEntries r
def uptoBulkEntry {H : Type} : Lit × DataW H → Nat
  | (.string bytes, d) => bytes.length + uptoBulk d + 1
  | (_, d) => uptoBulk d + 1
 end
def uptoSmall : (H : Type) → List (DataW H) → Bool := fun _ ds => decide (uptoBulkAll ds ≤ 1048576)
def OpenSpec.upto (s : _root_.Go.ChangeSpec) : _root_.Go.OpenSpec := { _root_.Go.OpenSpec.ofChange s with cond := some uptoSmall }

/-- 'laws.FnGestures', WHERE WHAT IT READS IS OF BULK AT MOST 1048576: true; the input reads as it did. -/
def fnGesturesUptoRow : OpenClaim := { program := "ytdbpejjbinbiiaa", sum := "29a8f4acecc1d2019c5c6e0638aff2b29cd6259d7b951ce373ef7c78103c5fc7", func := "loop.example/g03306/laws.FnGestures", spec := "fnGestures", unfollowed := true, recurses := true, leaving := true, apart := false, narrowed := true }
def FnGesturesUptoSaid : Prop := fnGesturesUptoRow.holds Try.pinned (OpenSpec.upto fnGesturesSpec)

/-- 'laws.FnExactStepSize', WHERE WHAT IT READS IS OF BULK AT MOST 1048576: true; the input reads as it did. -/
def fnExactStepSizeUptoRow : OpenClaim := { program := "ytdbpejjbinbiiaa", sum := "29a8f4acecc1d2019c5c6e0638aff2b29cd6259d7b951ce373ef7c78103c5fc7", func := "loop.example/g03306/laws.FnExactStepSize", spec := "fnExactStepSize", apart := false, narrowed := true }
def FnExactStepSizeUptoSaid : Prop := fnExactStepSizeUptoRow.holds Try.pinned (OpenSpec.upto fnExactStepSizeSpec)

/-- 'laws.FnExactIsGesture', WHERE WHAT IT READS IS OF BULK AT MOST 1048576: true; the input reads as it did. -/
def fnExactIsGestureUptoRow : OpenClaim := { program := "ytdbpejjbinbiiaa", sum := "29a8f4acecc1d2019c5c6e0638aff2b29cd6259d7b951ce373ef7c78103c5fc7", func := "loop.example/g03306/laws.FnExactIsGesture", spec := "fnExactIsGesture", recurses := true, apart := false, narrowed := true }
def FnExactIsGestureUptoSaid : Prop := fnExactIsGestureUptoRow.holds Try.pinned (OpenSpec.upto fnExactIsGestureSpec)

/-- 'laws.FnExactMiddlePose', WHERE WHAT IT READS IS OF BULK AT MOST 1048576: true; the input reads as it did. -/
def fnExactMiddlePoseUptoRow : OpenClaim := { program := "ytdbpejjbinbiiaa", sum := "29a8f4acecc1d2019c5c6e0638aff2b29cd6259d7b951ce373ef7c78103c5fc7", func := "loop.example/g03306/laws.FnExactMiddlePose", spec := "fnExactMiddlePose", unfollowed := true, recurses := true, leaving := true, apart := false, narrowed := true }
def FnExactMiddlePoseUptoSaid : Prop := fnExactMiddlePoseUptoRow.holds Try.pinned (OpenSpec.upto fnExactMiddlePoseSpec)

/-- 'laws.FnExactSmoothed', WHERE WHAT IT READS IS OF BULK AT MOST 1048576: true; the input reads as it did. -/
def fnExactSmoothedUptoRow : OpenClaim := { program := "ytdbpejjbinbiiaa", sum := "29a8f4acecc1d2019c5c6e0638aff2b29cd6259d7b951ce373ef7c78103c5fc7", func := "loop.example/g03306/laws.FnExactSmoothed", spec := "fnExactSmoothed", unfollowed := true, recurses := true, leaving := true, apart := false, narrowed := true }
def FnExactSmoothedUptoSaid : Prop := fnExactSmoothedUptoRow.holds Try.pinned (OpenSpec.upto fnExactSmoothedSpec)

/-- 'laws.FnExactHighestPose', WHERE WHAT IT READS IS OF BULK AT MOST 1048576: true; the input reads as it did. -/
def fnExactHighestPoseUptoRow : OpenClaim := { program := "ytdbpejjbinbiiaa", sum := "29a8f4acecc1d2019c5c6e0638aff2b29cd6259d7b951ce373ef7c78103c5fc7", func := "loop.example/g03306/laws.FnExactHighestPose", spec := "fnExactHighestPose", unfollowed := true, recurses := true, leaving := true, apart := false, narrowed := true }
def FnExactHighestPoseUptoSaid : Prop := fnExactHighestPoseUptoRow.holds Try.pinned (OpenSpec.upto fnExactHighestPoseSpec)

/-- 'laws.FnExactLowerPose', WHERE WHAT IT READS IS OF BULK AT MOST 1048576: true; the input reads as it did. -/
def fnExactLowerPoseUptoRow : OpenClaim := { program := "ytdbpejjbinbiiaa", sum := "29a8f4acecc1d2019c5c6e0638aff2b29cd6259d7b951ce373ef7c78103c5fc7", func := "loop.example/g03306/laws.FnExactLowerPose", spec := "fnExactLowerPose", unfollowed := true, recurses := true, leaving := true, apart := false, narrowed := true }
def FnExactLowerPoseUptoSaid : Prop := fnExactLowerPoseUptoRow.holds Try.pinned (OpenSpec.upto fnExactLowerPoseSpec)

end Rows
end Go.Proofs.Ytdbpejjbinbiiaa
