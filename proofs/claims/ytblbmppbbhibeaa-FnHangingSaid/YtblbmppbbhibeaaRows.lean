/-
  No cell of these rows narrows 'for every input' (looked for: loops, veiled, ifaces, maps, wideKeys, modest, calm, conditions, laid).
  DERIVED. THE GIVEN ROWS OF THIS SEAT. 7 by the template 'for every input the law returns true; each argument reads behind the call as it read before'; 0 by the template 'total and deterministic' (their statements: YtblbmppbbhibeaaTotals.lean).
  GIVEN WITH THE SEED: the statements are not yours to turn. If you find one false, say at which input.
  Laid BY PROGRAM, IN A SANDBOX (cutbox-rows.mjs): the forced cells as the released guide's own fill.sh prints them over the translation d4a8d4a97f9eadeb… (all of the seat's roots in one cut). By AI agents, Wed Nov 11 2026. No macro, syntax, notation, axiom, sorry.
-/
import Derived.Test.YtblbmppbbhibeaaChecked
import GoSem.Claim
import GoSem.ClaimJoined
import GoSem.ClaimMapViews
import Derived.JoinedTies
import Derived.KernelRfl
namespace Go.Proofs.Ytblbmppbbhibeaa
/- THE CELL 'sum', in the pinned program and in every row, IS THE sha256 OF THE DUMP (.gsa) THAT YtblbmppbbhibeaaProg.lean LOADS. Nothing in Lean hashes anything: it is a label: what it is worth is what the hold of that sum in a sandbox is worth. -/
noncomputable def Try.pinned : Pinned := { name := "ytblbmppbbhibeaa", sum := "d4a8d4a97f9eadeb5131deb485bc902c8ec4dfa82424b7ee901e2a537713cfcf", checked := Try.checked }
namespace Rows
def none {H : Type} : Left H := { results := [], args := [] }

/-- 'laws.FnHanging': WHATEVER THE INPUT: true; the input reads as it did. -/
def fnHangingSpec : ChangeSpec := { name := "fnHanging", fn := fun _ => fun
  | [d] => { results := [.lit (.bool true)], args := [d] }
  | _ => none }
def fnHangingRow : OpenClaim := { program := "ytblbmppbbhibeaa", sum := "d4a8d4a97f9eadeb5131deb485bc902c8ec4dfa82424b7ee901e2a537713cfcf", func := "loop.example/g03306/laws.FnHanging", spec := "fnHanging", unfollowed := true, recurses := true, apart := false }
def FnHangingSaid : Prop := fnHangingRow.holds Try.pinned (OpenSpec.ofChange fnHangingSpec)

/-- ITS FALSE NEIGHBOUR: 'it returns false'. Refute it at one input. -/
def fnHangingWrong : ChangeSpec := { name := "fnHanging", fn := fun _ => fun
  | [d] => { results := [.lit (.bool false)], args := [d] }
  | _ => none }
def FnHangingWrongFalsely : Prop := fnHangingRow.holds Try.pinned (OpenSpec.ofChange fnHangingWrong)

/-- 'laws.FnExactPullsOk': WHATEVER THE INPUT: true; the input reads as it did. -/
def fnExactPullsOkSpec : ChangeSpec := { name := "fnExactPullsOk", fn := fun _ => fun
  | [d1, d2] => { results := [.lit (.bool true)], args := [d1, d2] }
  | _ => none }
def fnExactPullsOkRow : OpenClaim := { program := "ytblbmppbbhibeaa", sum := "d4a8d4a97f9eadeb5131deb485bc902c8ec4dfa82424b7ee901e2a537713cfcf", func := "loop.example/g03306/laws.FnExactPullsOk", spec := "fnExactPullsOk", recurses := true, apart := false }
def FnExactPullsOkSaid : Prop := fnExactPullsOkRow.holds Try.pinned (OpenSpec.ofChange fnExactPullsOkSpec)

/-- ITS FALSE NEIGHBOUR: 'it returns false'. Refute it at one input. -/
def fnExactPullsOkWrong : ChangeSpec := { name := "fnExactPullsOk", fn := fun _ => fun
  | [d1, d2] => { results := [.lit (.bool false)], args := [d1, d2] }
  | _ => none }
def FnExactPullsOkWrongFalsely : Prop := fnExactPullsOkRow.holds Try.pinned (OpenSpec.ofChange fnExactPullsOkWrong)

/-- 'laws.FnExactPoseOk': WHATEVER THE INPUT: true; the input reads as it did. -/
def fnExactPoseOkSpec : ChangeSpec := { name := "fnExactPoseOk", fn := fun _ => fun
  | [d1, d2] => { results := [.lit (.bool true)], args := [d1, d2] }
  | _ => none }
def fnExactPoseOkRow : OpenClaim := { program := "ytblbmppbbhibeaa", sum := "d4a8d4a97f9eadeb5131deb485bc902c8ec4dfa82424b7ee901e2a537713cfcf", func := "loop.example/g03306/laws.FnExactPoseOk", spec := "fnExactPoseOk", recurses := true, apart := false }
def FnExactPoseOkSaid : Prop := fnExactPoseOkRow.holds Try.pinned (OpenSpec.ofChange fnExactPoseOkSpec)

/-- ITS FALSE NEIGHBOUR: 'it returns false'. Refute it at one input. -/
def fnExactPoseOkWrong : ChangeSpec := { name := "fnExactPoseOk", fn := fun _ => fun
  | [d1, d2] => { results := [.lit (.bool false)], args := [d1, d2] }
  | _ => none }
def FnExactPoseOkWrongFalsely : Prop := fnExactPoseOkRow.holds Try.pinned (OpenSpec.ofChange fnExactPoseOkWrong)

/-- 'laws.FnExactHangPose': WHATEVER THE INPUT: true; the input reads as it did. -/
def fnExactHangPoseSpec : ChangeSpec := { name := "fnExactHangPose", fn := fun _ => fun
  | [d1, d2] => { results := [.lit (.bool true)], args := [d1, d2] }
  | _ => none }
def fnExactHangPoseRow : OpenClaim := { program := "ytblbmppbbhibeaa", sum := "d4a8d4a97f9eadeb5131deb485bc902c8ec4dfa82424b7ee901e2a537713cfcf", func := "loop.example/g03306/laws.FnExactHangPose", spec := "fnExactHangPose", unfollowed := true, recurses := true, apart := false }
def FnExactHangPoseSaid : Prop := fnExactHangPoseRow.holds Try.pinned (OpenSpec.ofChange fnExactHangPoseSpec)

/-- ITS FALSE NEIGHBOUR: 'it returns false'. Refute it at one input. -/
def fnExactHangPoseWrong : ChangeSpec := { name := "fnExactHangPose", fn := fun _ => fun
  | [d1, d2] => { results := [.lit (.bool false)], args := [d1, d2] }
  | _ => none }
def FnExactHangPoseWrongFalsely : Prop := fnExactHangPoseRow.holds Try.pinned (OpenSpec.ofChange fnExactHangPoseWrong)

/-- 'laws.FnExactSlackStrings': WHATEVER THE INPUT: true; the input reads as it did. -/
def fnExactSlackStringsSpec : ChangeSpec := { name := "fnExactSlackStrings", fn := fun _ => fun
  | [d1, d2] => { results := [.lit (.bool true)], args := [d1, d2] }
  | _ => none }
def fnExactSlackStringsRow : OpenClaim := { program := "ytblbmppbbhibeaa", sum := "d4a8d4a97f9eadeb5131deb485bc902c8ec4dfa82424b7ee901e2a537713cfcf", func := "loop.example/g03306/laws.FnExactSlackStrings", spec := "fnExactSlackStrings", unfollowed := true, recurses := true, apart := false }
def FnExactSlackStringsSaid : Prop := fnExactSlackStringsRow.holds Try.pinned (OpenSpec.ofChange fnExactSlackStringsSpec)

/-- ITS FALSE NEIGHBOUR: 'it returns false'. Refute it at one input. -/
def fnExactSlackStringsWrong : ChangeSpec := { name := "fnExactSlackStrings", fn := fun _ => fun
  | [d1, d2] => { results := [.lit (.bool false)], args := [d1, d2] }
  | _ => none }
def FnExactSlackStringsWrongFalsely : Prop := fnExactSlackStringsRow.holds Try.pinned (OpenSpec.ofChange fnExactSlackStringsWrong)

/-- 'laws.FnExactIsHeld': WHATEVER THE INPUT: true; the input reads as it did. -/
def fnExactIsHeldSpec : ChangeSpec := { name := "fnExactIsHeld", fn := fun _ => fun
  | [d1, d2, d3] => { results := [.lit (.bool true)], args := [d1, d2, d3] }
  | _ => none }
def fnExactIsHeldRow : OpenClaim := { program := "ytblbmppbbhibeaa", sum := "d4a8d4a97f9eadeb5131deb485bc902c8ec4dfa82424b7ee901e2a537713cfcf", func := "loop.example/g03306/laws.FnExactIsHeld", spec := "fnExactIsHeld", recurses := true, apart := false }
def FnExactIsHeldSaid : Prop := fnExactIsHeldRow.holds Try.pinned (OpenSpec.ofChange fnExactIsHeldSpec)

/-- ITS FALSE NEIGHBOUR: 'it returns false'. Refute it at one input. -/
def fnExactIsHeldWrong : ChangeSpec := { name := "fnExactIsHeld", fn := fun _ => fun
  | [d1, d2, d3] => { results := [.lit (.bool false)], args := [d1, d2, d3] }
  | _ => none }
def FnExactIsHeldWrongFalsely : Prop := fnExactIsHeldRow.holds Try.pinned (OpenSpec.ofChange fnExactIsHeldWrong)

/-- 'laws.FnExactLowestPoint': WHATEVER THE INPUT: true; the input reads as it did. -/
def fnExactLowestPointSpec : ChangeSpec := { name := "fnExactLowestPoint", fn := fun _ => fun
  | [d1, d2] => { results := [.lit (.bool true)], args := [d1, d2] }
  | _ => none }
def fnExactLowestPointRow : OpenClaim := { program := "ytblbmppbbhibeaa", sum := "d4a8d4a97f9eadeb5131deb485bc902c8ec4dfa82424b7ee901e2a537713cfcf", func := "loop.example/g03306/laws.FnExactLowestPoint", spec := "fnExactLowestPoint", unfollowed := true, recurses := true, apart := false }
def FnExactLowestPointSaid : Prop := fnExactLowestPointRow.holds Try.pinned (OpenSpec.ofChange fnExactLowestPointSpec)

/-- ITS FALSE NEIGHBOUR: 'it returns false'. Refute it at one input. -/
def fnExactLowestPointWrong : ChangeSpec := { name := "fnExactLowestPoint", fn := fun _ => fun
  | [d1, d2] => { results := [.lit (.bool false)], args := [d1, d2] }
  | _ => none }
def FnExactLowestPointWrongFalsely : Prop := fnExactLowestPointRow.holds Try.pinned (OpenSpec.ofChange fnExactLowestPointWrong)

/- THE SECOND FORM. 'bulk': how many values and letters a reading holds, each counted each time it is reached (what is shared counts as often as it is met; a slice's spare places count too). A statement '..UptoSaid' is the law's where the arguments, and the package variables that the reading takes, are together of bulk at most 1048576: NARROWER than '..Said'. Prove '..Said' where nothing that the law and all that it calls make is longer than what came in: it says more and counts as full. Else prove '..UptoSaid'. A law counts once. -/
mutual
def uptoBulk {H : Type} : DataW H → Nat
  | .lit (.string bytes) => bytes.length + 1
  | .lit _ => 1
  | .nil => 1
  | .ptr d => uptoBulk d + 1
  | .slice elems spare => uptoBulkAll elems + uptoBulkAll spare + 1
  | .agg parts => uptoBulkAll parts + 1
  | .iface _ d => uptoBulk d + 1
  | .map entries => uptoBulkEntries entries + 1
  | .held _ => 1
def uptoBulkAll {H : Type} : List (DataW H) → Nat
  | [] => 0
  | d :: r => uptoBulk d + uptoBulkAll r
def uptoBulkEntries {H : Type} : List (Lit × DataW H) → Nat
  | [] => 0
  | x :: r => uptoBulkEntry x + uptoBulkEntries r
def uptoBulkEntry {H : Type} : Lit × DataW H → Nat
  | (.string bytes, d) => bytes.length + uptoBulk d + 1
  | (_, d) => uptoBulk d + 1
 end
def uptoSmall : (H : Type) → List (DataW H) → Bool := fun _ ds => decide (uptoBulkAll ds ≤ 1048576)
def OpenSpec.upto (s : _root_.Go.ChangeSpec) : _root_.Go.OpenSpec := { _root_.Go.OpenSpec.ofChange s with cond := some uptoSmall }

/-- 'laws.FnHanging', WHERE WHAT IT READS IS OF BULK AT MOST 1048576: true; the input reads as it did. -/
def fnHangingUptoRow : OpenClaim := { program := "ytblbmppbbhibeaa", sum := "d4a8d4a97f9eadeb5131deb485bc902c8ec4dfa82424b7ee901e2a537713cfcf", func := "loop.example/g03306/laws.FnHanging", spec := "fnHanging", unfollowed := true, recurses := true, apart := false, narrowed := true }
def FnHangingUptoSaid : Prop := fnHangingUptoRow.holds Try.pinned (OpenSpec.upto fnHangingSpec)

/-- 'laws.FnExactPullsOk', WHERE WHAT IT READS IS OF BULK AT MOST 1048576: true; the input reads as it did. -/
def fnExactPullsOkUptoRow : OpenClaim := { program := "ytblbmppbbhibeaa", sum := "d4a8d4a97f9eadeb5131deb485bc902c8ec4dfa82424b7ee901e2a537713cfcf", func := "loop.example/g03306/laws.FnExactPullsOk", spec := "fnExactPullsOk", recurses := true, apart := false, narrowed := true }
def FnExactPullsOkUptoSaid : Prop := fnExactPullsOkUptoRow.holds Try.pinned (OpenSpec.upto fnExactPullsOkSpec)

/-- 'laws.FnExactPoseOk', WHERE WHAT IT READS IS OF BULK AT MOST 1048576: true; the input reads as it did. -/
def fnExactPoseOkUptoRow : OpenClaim := { program := "ytblbmppbbhibeaa", sum := "d4a8d4a97f9eadeb5131deb485bc902c8ec4dfa82424b7ee901e2a537713cfcf", func := "loop.example/g03306/laws.FnExactPoseOk", spec := "fnExactPoseOk", recurses := true, apart := false, narrowed := true }
def FnExactPoseOkUptoSaid : Prop := fnExactPoseOkUptoRow.holds Try.pinned (OpenSpec.upto fnExactPoseOkSpec)

/-- 'laws.FnExactHangPose', WHERE WHAT IT READS IS OF BULK AT MOST 1048576: true; the input reads as it did. -/
def fnExactHangPoseUptoRow : OpenClaim := { program := "ytblbmppbbhibeaa", sum := "d4a8d4a97f9eadeb5131deb485bc902c8ec4dfa82424b7ee901e2a537713cfcf", func := "loop.example/g03306/laws.FnExactHangPose", spec := "fnExactHangPose", unfollowed := true, recurses := true, apart := false, narrowed := true }
def FnExactHangPoseUptoSaid : Prop := fnExactHangPoseUptoRow.holds Try.pinned (OpenSpec.upto fnExactHangPoseSpec)

/-- 'laws.FnExactSlackStrings', WHERE WHAT IT READS IS OF BULK AT MOST 1048576: true; the input reads as it did. -/
def fnExactSlackStringsUptoRow : OpenClaim := { program := "ytblbmppbbhibeaa", sum := "d4a8d4a97f9eadeb5131deb485bc902c8ec4dfa82424b7ee901e2a537713cfcf", func := "loop.example/g03306/laws.FnExactSlackStrings", spec := "fnExactSlackStrings", unfollowed := true, recurses := true, apart := false, narrowed := true }
def FnExactSlackStringsUptoSaid : Prop := fnExactSlackStringsUptoRow.holds Try.pinned (OpenSpec.upto fnExactSlackStringsSpec)

/-- 'laws.FnExactIsHeld', WHERE WHAT IT READS IS OF BULK AT MOST 1048576: true; the input reads as it did. -/
def fnExactIsHeldUptoRow : OpenClaim := { program := "ytblbmppbbhibeaa", sum := "d4a8d4a97f9eadeb5131deb485bc902c8ec4dfa82424b7ee901e2a537713cfcf", func := "loop.example/g03306/laws.FnExactIsHeld", spec := "fnExactIsHeld", recurses := true, apart := false, narrowed := true }
def FnExactIsHeldUptoSaid : Prop := fnExactIsHeldUptoRow.holds Try.pinned (OpenSpec.upto fnExactIsHeldSpec)

/-- 'laws.FnExactLowestPoint', WHERE WHAT IT READS IS OF BULK AT MOST 1048576: true; the input reads as it did. -/
def fnExactLowestPointUptoRow : OpenClaim := { program := "ytblbmppbbhibeaa", sum := "d4a8d4a97f9eadeb5131deb485bc902c8ec4dfa82424b7ee901e2a537713cfcf", func := "loop.example/g03306/laws.FnExactLowestPoint", spec := "fnExactLowestPoint", unfollowed := true, recurses := true, apart := false, narrowed := true }
def FnExactLowestPointUptoSaid : Prop := fnExactLowestPointUptoRow.holds Try.pinned (OpenSpec.upto fnExactLowestPointSpec)

end Rows
end Go.Proofs.Ytblbmppbbhibeaa
