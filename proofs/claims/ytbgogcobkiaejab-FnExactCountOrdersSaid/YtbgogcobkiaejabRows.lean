/-
  No cell of these rows narrows 'for every input' (looked for: loops, veiled, ifaces, maps, wideKeys, modest, calm, conditions, laid).
  DERIVED. THE GIVEN ROWS OF THIS SEAT. 7 by the template 'for every input the law returns true; each argument reads behind the call as it read before'; 0 by the template 'total and deterministic' (their statements: YtbgogcobkiaejabTotals.lean).
  GIVEN WITH THE SEED: the statements are not yours to turn. If you find one false, say at which input.
  Laid BY PROGRAM, IN A SANDBOX (cutbox-rows.mjs): the forced cells as the released guide's own fill.sh prints them over the translation a3b38773a0c8a352… (all of the seat's roots in one cut). By AI agents, Wed Nov 11 2026. No macro, syntax, notation, axiom, sorry.
-/
import Derived.Test.YtbgogcobkiaejabChecked
import GoSem.Claim
import GoSem.ClaimJoined
import GoSem.ClaimMapViews
import Derived.JoinedTies
import Derived.KernelRfl
namespace Go.Proofs.Ytbgogcobkiaejab
/- THE CELL 'sum', in the pinned program and in every row, IS THE sha256 OF THE DUMP (.gsa) THAT YtbgogcobkiaejabProg.lean LOADS. Nothing in Lean hashes anything: it is a label: what it is worth is what the hold of that sum in a sandbox is worth. -/
noncomputable def Try.pinned : Pinned := { name := "ytbgogcobkiaejab", sum := "a3b38773a0c8a3527742fb657e17823f1a881dbadb11ec1625f44a9b0e3db0fe", checked := Try.checked }
namespace Rows
def none {H : Type} : Left H := { results := [], args := [] }

/-- 'laws.FnCues': WHATEVER THE INPUT: true; the input reads as it did. -/
def fnCuesSpec : ChangeSpec := { name := "fnCues", fn := fun _ => fun
  | [d] => { results := [.lit (.bool true)], args := [d] }
  | _ => none }
def fnCuesRow : OpenClaim := { program := "ytbgogcobkiaejab", sum := "a3b38773a0c8a3527742fb657e17823f1a881dbadb11ec1625f44a9b0e3db0fe", func := "loop.example/g03306/laws.FnCues", spec := "fnCues", recurses := true, apart := false }
def FnCuesSaid : Prop := fnCuesRow.holds Try.pinned (OpenSpec.ofChange fnCuesSpec)

/-- ITS FALSE NEIGHBOUR: 'it returns false'. Refute it at one input. -/
def fnCuesWrong : ChangeSpec := { name := "fnCues", fn := fun _ => fun
  | [d] => { results := [.lit (.bool false)], args := [d] }
  | _ => none }
def FnCuesWrongFalsely : Prop := fnCuesRow.holds Try.pinned (OpenSpec.ofChange fnCuesWrong)

/-- 'laws.FnExactCuesOk': WHATEVER THE INPUT: true; the input reads as it did. -/
def fnExactCuesOkSpec : ChangeSpec := { name := "fnExactCuesOk", fn := fun _ => fun
  | [d] => { results := [.lit (.bool true)], args := [d] }
  | _ => none }
def fnExactCuesOkRow : OpenClaim := { program := "ytbgogcobkiaejab", sum := "a3b38773a0c8a3527742fb657e17823f1a881dbadb11ec1625f44a9b0e3db0fe", func := "loop.example/g03306/laws.FnExactCuesOk", spec := "fnExactCuesOk", recurses := true, apart := false }
def FnExactCuesOkSaid : Prop := fnExactCuesOkRow.holds Try.pinned (OpenSpec.ofChange fnExactCuesOkSpec)

/-- ITS FALSE NEIGHBOUR: 'it returns false'. Refute it at one input. -/
def fnExactCuesOkWrong : ChangeSpec := { name := "fnExactCuesOk", fn := fun _ => fun
  | [d] => { results := [.lit (.bool false)], args := [d] }
  | _ => none }
def FnExactCuesOkWrongFalsely : Prop := fnExactCuesOkRow.holds Try.pinned (OpenSpec.ofChange fnExactCuesOkWrong)

/-- 'laws.FnExactWaitsFor': WHATEVER THE INPUT: true; the input reads as it did. -/
def fnExactWaitsForSpec : ChangeSpec := { name := "fnExactWaitsFor", fn := fun _ => fun
  | [d1, d2, d3] => { results := [.lit (.bool true)], args := [d1, d2, d3] }
  | _ => none }
def fnExactWaitsForRow : OpenClaim := { program := "ytbgogcobkiaejab", sum := "a3b38773a0c8a3527742fb657e17823f1a881dbadb11ec1625f44a9b0e3db0fe", func := "loop.example/g03306/laws.FnExactWaitsFor", spec := "fnExactWaitsFor", recurses := true, apart := false }
def FnExactWaitsForSaid : Prop := fnExactWaitsForRow.holds Try.pinned (OpenSpec.ofChange fnExactWaitsForSpec)

/-- ITS FALSE NEIGHBOUR: 'it returns false'. Refute it at one input. -/
def fnExactWaitsForWrong : ChangeSpec := { name := "fnExactWaitsFor", fn := fun _ => fun
  | [d1, d2, d3] => { results := [.lit (.bool false)], args := [d1, d2, d3] }
  | _ => none }
def FnExactWaitsForWrongFalsely : Prop := fnExactWaitsForRow.holds Try.pinned (OpenSpec.ofChange fnExactWaitsForWrong)

/-- 'laws.FnExactCueOrder': WHATEVER THE INPUT: true; the input reads as it did. -/
def fnExactCueOrderSpec : ChangeSpec := { name := "fnExactCueOrder", fn := fun _ => fun
  | [d] => { results := [.lit (.bool true)], args := [d] }
  | _ => none }
def fnExactCueOrderRow : OpenClaim := { program := "ytbgogcobkiaejab", sum := "a3b38773a0c8a3527742fb657e17823f1a881dbadb11ec1625f44a9b0e3db0fe", func := "loop.example/g03306/laws.FnExactCueOrder", spec := "fnExactCueOrder", recurses := true, apart := false }
def FnExactCueOrderSaid : Prop := fnExactCueOrderRow.holds Try.pinned (OpenSpec.ofChange fnExactCueOrderSpec)

/-- ITS FALSE NEIGHBOUR: 'it returns false'. Refute it at one input. -/
def fnExactCueOrderWrong : ChangeSpec := { name := "fnExactCueOrder", fn := fun _ => fun
  | [d] => { results := [.lit (.bool false)], args := [d] }
  | _ => none }
def FnExactCueOrderWrongFalsely : Prop := fnExactCueOrderRow.holds Try.pinned (OpenSpec.ofChange fnExactCueOrderWrong)

/-- 'laws.FnExactCountOrders': WHATEVER THE INPUT: true; the input reads as it did. -/
def fnExactCountOrdersSpec : ChangeSpec := { name := "fnExactCountOrders", fn := fun _ => fun
  | [d] => { results := [.lit (.bool true)], args := [d] }
  | _ => none }
def fnExactCountOrdersRow : OpenClaim := { program := "ytbgogcobkiaejab", sum := "a3b38773a0c8a3527742fb657e17823f1a881dbadb11ec1625f44a9b0e3db0fe", func := "loop.example/g03306/laws.FnExactCountOrders", spec := "fnExactCountOrders", recurses := true, apart := false }
def FnExactCountOrdersSaid : Prop := fnExactCountOrdersRow.holds Try.pinned (OpenSpec.ofChange fnExactCountOrdersSpec)

/-- ITS FALSE NEIGHBOUR: 'it returns false'. Refute it at one input. -/
def fnExactCountOrdersWrong : ChangeSpec := { name := "fnExactCountOrders", fn := fun _ => fun
  | [d] => { results := [.lit (.bool false)], args := [d] }
  | _ => none }
def FnExactCountOrdersWrongFalsely : Prop := fnExactCountOrdersRow.holds Try.pinned (OpenSpec.ofChange fnExactCountOrdersWrong)

/-- 'laws.FnExactCircleIn': WHATEVER THE INPUT: true; the input reads as it did. -/
def fnExactCircleInSpec : ChangeSpec := { name := "fnExactCircleIn", fn := fun _ => fun
  | [d] => { results := [.lit (.bool true)], args := [d] }
  | _ => none }
def fnExactCircleInRow : OpenClaim := { program := "ytbgogcobkiaejab", sum := "a3b38773a0c8a3527742fb657e17823f1a881dbadb11ec1625f44a9b0e3db0fe", func := "loop.example/g03306/laws.FnExactCircleIn", spec := "fnExactCircleIn", recurses := true, apart := false }
def FnExactCircleInSaid : Prop := fnExactCircleInRow.holds Try.pinned (OpenSpec.ofChange fnExactCircleInSpec)

/-- ITS FALSE NEIGHBOUR: 'it returns false'. Refute it at one input. -/
def fnExactCircleInWrong : ChangeSpec := { name := "fnExactCircleIn", fn := fun _ => fun
  | [d] => { results := [.lit (.bool false)], args := [d] }
  | _ => none }
def FnExactCircleInWrongFalsely : Prop := fnExactCircleInRow.holds Try.pinned (OpenSpec.ofChange fnExactCircleInWrong)

/-- 'laws.FnExactFreeCues': WHATEVER THE INPUT: true; the input reads as it did. -/
def fnExactFreeCuesSpec : ChangeSpec := { name := "fnExactFreeCues", fn := fun _ => fun
  | [d] => { results := [.lit (.bool true)], args := [d] }
  | _ => none }
def fnExactFreeCuesRow : OpenClaim := { program := "ytbgogcobkiaejab", sum := "a3b38773a0c8a3527742fb657e17823f1a881dbadb11ec1625f44a9b0e3db0fe", func := "loop.example/g03306/laws.FnExactFreeCues", spec := "fnExactFreeCues", recurses := true, apart := false }
def FnExactFreeCuesSaid : Prop := fnExactFreeCuesRow.holds Try.pinned (OpenSpec.ofChange fnExactFreeCuesSpec)

/-- ITS FALSE NEIGHBOUR: 'it returns false'. Refute it at one input. -/
def fnExactFreeCuesWrong : ChangeSpec := { name := "fnExactFreeCues", fn := fun _ => fun
  | [d] => { results := [.lit (.bool false)], args := [d] }
  | _ => none }
def FnExactFreeCuesWrongFalsely : Prop := fnExactFreeCuesRow.holds Try.pinned (OpenSpec.ofChange fnExactFreeCuesWrong)

/- THE SECOND FORM. 'bulk': how many values and letters a reading holds, each counted each time it is reached (what is shared counts as often as it is met; a slice's spare places count too). A statement '..UptoSaid' is the law's where the arguments, and the package variables that the reading takes, are together of bulk at most 1048576: NARROWER than '..Said'. Prove '..Said' where nothing that the law and all that it calls make is longer than what came in: it says more and counts as full. Else prove '..UptoSaid'. A law counts once. -/
mutual
def uptoBulk {H : Type} : DataW H → Nat
  | .lit (.string bytes) => bytes.length + 1
  | .lit _ => 1
  | .nil => 1
  | .ptr d => uptoBulk d + 1
  | .slice elems spare => uptoBulkAll elems + uptoBulkAll spare + 1
  | .agg parts => uptoBulkAll parts + 1
  | .iface _ d => uptoBulk d + 1
  | .map entries => uptoBulkEntries entries + 1
  | .held _ => 1
def uptoBulkAll {H : Type} : List (DataW H) → Nat
  | [] => 0
  | d :: r => uptoBulk d + uptoBulkAll r
def uptoBulkEntries {H : Type} : List (Lit × DataW H) → Nat
  | [] => 0
  | x :: r => uptoBulkEntry x + uptoBulkEntries r
def uptoBulkEntry {H : Type} : Lit × DataW H → Nat
  | (.string bytes, d) => bytes.length + uptoBulk d + 1
  | (_, d) => uptoBulk d + 1
 end
def uptoSmall : (H : Type) → List (DataW H) → Bool := fun _ ds => decide (uptoBulkAll ds ≤ 1048576)
def OpenSpec.upto (s : _root_.Go.ChangeSpec) : _root_.Go.OpenSpec := { _root_.Go.OpenSpec.ofChange s with cond := some uptoSmall }

/-- 'laws.FnCues', WHERE WHAT IT READS IS OF BULK AT MOST 1048576: true; the input reads as it did. -/
def fnCuesUptoRow : OpenClaim := { program := "ytbgogcobkiaejab", sum := "a3b38773a0c8a3527742fb657e17823f1a881dbadb11ec1625f44a9b0e3db0fe", func := "loop.example/g03306/laws.FnCues", spec := "fnCues", recurses := true, apart := false, narrowed := true }
def FnCuesUptoSaid : Prop := fnCuesUptoRow.holds Try.pinned (OpenSpec.upto fnCuesSpec)

/-- 'laws.FnExactCuesOk', WHERE WHAT IT READS IS OF BULK AT MOST 1048576: true; the input reads as it did. -/
def fnExactCuesOkUptoRow : OpenClaim := { program := "ytbgogcobkiaejab", sum := "a3b38773a0c8a3527742fb657e17823f1a881dbadb11ec1625f44a9b0e3db0fe", func := "loop.example/g03306/laws.FnExactCuesOk", spec := "fnExactCuesOk", recurses := true, apart := false, narrowed := true }
def FnExactCuesOkUptoSaid : Prop := fnExactCuesOkUptoRow.holds Try.pinned (OpenSpec.upto fnExactCuesOkSpec)

/-- 'laws.FnExactWaitsFor', WHERE WHAT IT READS IS OF BULK AT MOST 1048576: true; the input reads as it did. -/
def fnExactWaitsForUptoRow : OpenClaim := { program := "ytbgogcobkiaejab", sum := "a3b38773a0c8a3527742fb657e17823f1a881dbadb11ec1625f44a9b0e3db0fe", func := "loop.example/g03306/laws.FnExactWaitsFor", spec := "fnExactWaitsFor", recurses := true, apart := false, narrowed := true }
def FnExactWaitsForUptoSaid : Prop := fnExactWaitsForUptoRow.holds Try.pinned (OpenSpec.upto fnExactWaitsForSpec)

/-- 'laws.FnExactCueOrder', WHERE WHAT IT READS IS OF BULK AT MOST 1048576: true; the input reads as it did. -/
def fnExactCueOrderUptoRow : OpenClaim := { program := "ytbgogcobkiaejab", sum := "a3b38773a0c8a3527742fb657e17823f1a881dbadb11ec1625f44a9b0e3db0fe", func := "loop.example/g03306/laws.FnExactCueOrder", spec := "fnExactCueOrder", recurses := true, apart := false, narrowed := true }
def FnExactCueOrderUptoSaid : Prop := fnExactCueOrderUptoRow.holds Try.pinned (OpenSpec.upto fnExactCueOrderSpec)

/-- 'laws.FnExactCountOrders', WHERE WHAT IT READS IS OF BULK AT MOST 1048576: true; the input reads as it did. -/
def fnExactCountOrdersUptoRow : OpenClaim := { program := "ytbgogcobkiaejab", sum := "a3b38773a0c8a3527742fb657e17823f1a881dbadb11ec1625f44a9b0e3db0fe", func := "loop.example/g03306/laws.FnExactCountOrders", spec := "fnExactCountOrders", recurses := true, apart := false, narrowed := true }
def FnExactCountOrdersUptoSaid : Prop := fnExactCountOrdersUptoRow.holds Try.pinned (OpenSpec.upto fnExactCountOrdersSpec)

/-- 'laws.FnExactCircleIn', WHERE WHAT IT READS IS OF BULK AT MOST 1048576: true; the input reads as it did. -/
def fnExactCircleInUptoRow : OpenClaim := { program := "ytbgogcobkiaejab", sum := "a3b38773a0c8a3527742fb657e17823f1a881dbadb11ec1625f44a9b0e3db0fe", func := "loop.example/g03306/laws.FnExactCircleIn", spec := "fnExactCircleIn", recurses := true, apart := false, narrowed := true }
def FnExactCircleInUptoSaid : Prop := fnExactCircleInUptoRow.holds Try.pinned (OpenSpec.upto fnExactCircleInSpec)

/-- 'laws.FnExactFreeCues', WHERE WHAT IT READS IS OF BULK AT MOST 1048576: true; the input reads as it did. -/
def fnExactFreeCuesUptoRow : OpenClaim := { program := "ytbgogcobkiaejab", sum := "a3b38773a0c8a3527742fb657e17823f1a881dbadb11ec1625f44a9b0e3db0fe", func := "loop.example/g03306/laws.FnExactFreeCues", spec := "fnExactFreeCues", recurses := true, apart := false, narrowed := true }
def FnExactFreeCuesUptoSaid : Prop := fnExactFreeCuesUptoRow.holds Try.pinned (OpenSpec.upto fnExactFreeCuesSpec)

end Rows
end Go.Proofs.Ytbgogcobkiaejab
