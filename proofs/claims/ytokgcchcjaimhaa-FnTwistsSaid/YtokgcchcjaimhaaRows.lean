/-
  No cell of these rows narrows 'for every input' (looked for: loops, veiled, ifaces, maps, wideKeys, modest, calm, conditions, laid).
  DERIVED. THE GIVEN ROWS OF THIS SEAT. 7 by the template 'for every input the law returns true; each argument reads behind the call as it read before'; 0 by the template 'total and deterministic' (their statements: YtokgcchcjaimhaaTotals.lean).
  GIVEN WITH THE SEED: the statements are not yours to turn. If you find one false, say at which input.
  Laid BY PROGRAM, IN A SANDBOX (cutbox-rows.mjs): the forced cells as the released guide's own fill.sh prints them over the translation 42e15a6749aa560a… (all of the seat's roots in one cut). By AI agents, Wed Nov 11 2026. No macro, syntax, notation, axiom, sorry.
-/
import Derived.Test.YtokgcchcjaimhaaChecked
import GoSem.Claim
import GoSem.ClaimJoined
import GoSem.ClaimMapViews
import Derived.JoinedTies
import Derived.KernelRfl
namespace Go.Proofs.Ytokgcchcjaimhaa
/- THE CELL 'sum', in the pinned program and in every row, IS THE sha256 OF THE DUMP (.gsa) THAT YtokgcchcjaimhaaProg.lean LOADS. Nothing in Lean hashes anything: it is a label: what it is worth is what the hold of that sum in a sandbox is worth. -/
noncomputable def Try.pinned : Pinned := { name := "ytokgcchcjaimhaa", sum := "42e15a6749aa560ab60ed234c4d243c27e8d2248a0278fe45d73bb9393a6d442", checked := Try.checked }
namespace Rows
def none {H : Type} : Left H := { results := [], args := [] }

/-- 'laws.FnTwists': WHATEVER THE INPUT: true; the input reads as it did. -/
def fnTwistsSpec : ChangeSpec := { name := "fnTwists", fn := fun _ => fun
  | [d] => { results := [.lit (.bool true)], args := [d] }
  | _ => none }
def fnTwistsRow : OpenClaim := { program := "ytokgcchcjaimhaa", sum := "42e15a6749aa560ab60ed234c4d243c27e8d2248a0278fe45d73bb9393a6d442", func := "loop.example/g03306/laws.FnTwists", spec := "fnTwists", apart := false }
def FnTwistsSaid : Prop := fnTwistsRow.holds Try.pinned (OpenSpec.ofChange fnTwistsSpec)

/-- ITS FALSE NEIGHBOUR: 'it returns false'. Refute it at one input. -/
def fnTwistsWrong : ChangeSpec := { name := "fnTwists", fn := fun _ => fun
  | [d] => { results := [.lit (.bool false)], args := [d] }
  | _ => none }
def FnTwistsWrongFalsely : Prop := fnTwistsRow.holds Try.pinned (OpenSpec.ofChange fnTwistsWrong)

/-- 'laws.FnExactTwistOf': WHATEVER THE INPUT: true; the input reads as it did. -/
def fnExactTwistOfSpec : ChangeSpec := { name := "fnExactTwistOf", fn := fun _ => fun
  | [d1, d2, d3, d4] => { results := [.lit (.bool true)], args := [d1, d2, d3, d4] }
  | _ => none }
def fnExactTwistOfRow : OpenClaim := { program := "ytokgcchcjaimhaa", sum := "42e15a6749aa560ab60ed234c4d243c27e8d2248a0278fe45d73bb9393a6d442", func := "loop.example/g03306/laws.FnExactTwistOf", spec := "fnExactTwistOf", apart := false }
def FnExactTwistOfSaid : Prop := fnExactTwistOfRow.holds Try.pinned (OpenSpec.ofChange fnExactTwistOfSpec)

/-- ITS FALSE NEIGHBOUR: 'it returns false'. Refute it at one input. -/
def fnExactTwistOfWrong : ChangeSpec := { name := "fnExactTwistOf", fn := fun _ => fun
  | [d1, d2, d3, d4] => { results := [.lit (.bool false)], args := [d1, d2, d3, d4] }
  | _ => none }
def FnExactTwistOfWrongFalsely : Prop := fnExactTwistOfRow.holds Try.pinned (OpenSpec.ofChange fnExactTwistOfWrong)

/-- 'laws.FnExactTwistTable': WHATEVER THE INPUT: true; the input reads as it did. -/
def fnExactTwistTableSpec : ChangeSpec := { name := "fnExactTwistTable", fn := fun _ => fun
  | [d1, d2] => { results := [.lit (.bool true)], args := [d1, d2] }
  | _ => none }
def fnExactTwistTableRow : OpenClaim := { program := "ytokgcchcjaimhaa", sum := "42e15a6749aa560ab60ed234c4d243c27e8d2248a0278fe45d73bb9393a6d442", func := "loop.example/g03306/laws.FnExactTwistTable", spec := "fnExactTwistTable", apart := false }
def FnExactTwistTableSaid : Prop := fnExactTwistTableRow.holds Try.pinned (OpenSpec.ofChange fnExactTwistTableSpec)

/-- ITS FALSE NEIGHBOUR: 'it returns false'. Refute it at one input. -/
def fnExactTwistTableWrong : ChangeSpec := { name := "fnExactTwistTable", fn := fun _ => fun
  | [d1, d2] => { results := [.lit (.bool false)], args := [d1, d2] }
  | _ => none }
def FnExactTwistTableWrongFalsely : Prop := fnExactTwistTableRow.holds Try.pinned (OpenSpec.ofChange fnExactTwistTableWrong)

/-- 'laws.FnExactTotalTwist': WHATEVER THE INPUT: true; the input reads as it did. -/
def fnExactTotalTwistSpec : ChangeSpec := { name := "fnExactTotalTwist", fn := fun _ => fun
  | [d1, d2] => { results := [.lit (.bool true)], args := [d1, d2] }
  | _ => none }
def fnExactTotalTwistRow : OpenClaim := { program := "ytokgcchcjaimhaa", sum := "42e15a6749aa560ab60ed234c4d243c27e8d2248a0278fe45d73bb9393a6d442", func := "loop.example/g03306/laws.FnExactTotalTwist", spec := "fnExactTotalTwist", apart := false }
def FnExactTotalTwistSaid : Prop := fnExactTotalTwistRow.holds Try.pinned (OpenSpec.ofChange fnExactTotalTwistSpec)

/-- ITS FALSE NEIGHBOUR: 'it returns false'. Refute it at one input. -/
def fnExactTotalTwistWrong : ChangeSpec := { name := "fnExactTotalTwist", fn := fun _ => fun
  | [d1, d2] => { results := [.lit (.bool false)], args := [d1, d2] }
  | _ => none }
def FnExactTotalTwistWrongFalsely : Prop := fnExactTotalTwistRow.holds Try.pinned (OpenSpec.ofChange fnExactTotalTwistWrong)

/-- 'laws.FnExactIsUntwisted': WHATEVER THE INPUT: true; the input reads as it did. -/
def fnExactIsUntwistedSpec : ChangeSpec := { name := "fnExactIsUntwisted", fn := fun _ => fun
  | [d1, d2] => { results := [.lit (.bool true)], args := [d1, d2] }
  | _ => none }
def fnExactIsUntwistedRow : OpenClaim := { program := "ytokgcchcjaimhaa", sum := "42e15a6749aa560ab60ed234c4d243c27e8d2248a0278fe45d73bb9393a6d442", func := "loop.example/g03306/laws.FnExactIsUntwisted", spec := "fnExactIsUntwisted", apart := false }
def FnExactIsUntwistedSaid : Prop := fnExactIsUntwistedRow.holds Try.pinned (OpenSpec.ofChange fnExactIsUntwistedSpec)

/-- ITS FALSE NEIGHBOUR: 'it returns false'. Refute it at one input. -/
def fnExactIsUntwistedWrong : ChangeSpec := { name := "fnExactIsUntwisted", fn := fun _ => fun
  | [d1, d2] => { results := [.lit (.bool false)], args := [d1, d2] }
  | _ => none }
def FnExactIsUntwistedWrongFalsely : Prop := fnExactIsUntwistedRow.holds Try.pinned (OpenSpec.ofChange fnExactIsUntwistedWrong)

/-- 'laws.FnExactWoundPairs': WHATEVER THE INPUT: true; the input reads as it did. -/
def fnExactWoundPairsSpec : ChangeSpec := { name := "fnExactWoundPairs", fn := fun _ => fun
  | [d1, d2] => { results := [.lit (.bool true)], args := [d1, d2] }
  | _ => none }
def fnExactWoundPairsRow : OpenClaim := { program := "ytokgcchcjaimhaa", sum := "42e15a6749aa560ab60ed234c4d243c27e8d2248a0278fe45d73bb9393a6d442", func := "loop.example/g03306/laws.FnExactWoundPairs", spec := "fnExactWoundPairs", apart := false }
def FnExactWoundPairsSaid : Prop := fnExactWoundPairsRow.holds Try.pinned (OpenSpec.ofChange fnExactWoundPairsSpec)

/-- ITS FALSE NEIGHBOUR: 'it returns false'. Refute it at one input. -/
def fnExactWoundPairsWrong : ChangeSpec := { name := "fnExactWoundPairs", fn := fun _ => fun
  | [d1, d2] => { results := [.lit (.bool false)], args := [d1, d2] }
  | _ => none }
def FnExactWoundPairsWrongFalsely : Prop := fnExactWoundPairsRow.holds Try.pinned (OpenSpec.ofChange fnExactWoundPairsWrong)

/-- 'laws.FnExactLeastUndoing': WHATEVER THE INPUT: true; the input reads as it did. -/
def fnExactLeastUndoingSpec : ChangeSpec := { name := "fnExactLeastUndoing", fn := fun _ => fun
  | [d1, d2] => { results := [.lit (.bool true)], args := [d1, d2] }
  | _ => none }
def fnExactLeastUndoingRow : OpenClaim := { program := "ytokgcchcjaimhaa", sum := "42e15a6749aa560ab60ed234c4d243c27e8d2248a0278fe45d73bb9393a6d442", func := "loop.example/g03306/laws.FnExactLeastUndoing", spec := "fnExactLeastUndoing", apart := false }
def FnExactLeastUndoingSaid : Prop := fnExactLeastUndoingRow.holds Try.pinned (OpenSpec.ofChange fnExactLeastUndoingSpec)

/-- ITS FALSE NEIGHBOUR: 'it returns false'. Refute it at one input. -/
def fnExactLeastUndoingWrong : ChangeSpec := { name := "fnExactLeastUndoing", fn := fun _ => fun
  | [d1, d2] => { results := [.lit (.bool false)], args := [d1, d2] }
  | _ => none }
def FnExactLeastUndoingWrongFalsely : Prop := fnExactLeastUndoingRow.holds Try.pinned (OpenSpec.ofChange fnExactLeastUndoingWrong)

/- THE SECOND FORM. 'bulk': how many values and letters a reading holds, each counted each time it is reached (what is shared counts as often as it is met; a slice's spare places count too). A statement '..UptoSaid' is the law's where the arguments, and the package variables that the reading takes, are together of bulk at most 1048576: NARROWER than '..Said'. Prove '..Said' where nothing that the law and all that it calls make is longer than what came in: it says more and counts as full. Else prove '..UptoSaid'. A law counts once. -/
mutual
def uptoBulk {H : Type} : DataW H → Nat
  | .lit (.string bytes) => bytes.length + 1
  | .lit _ => 1
  | .nil => 1
  | .ptr d => uptoBulk d + 1
  | .slice elems spare => uptoBulkAll elems + uptoBulkAll spare + 1
  | .agg parts => uptoBulkAll parts + 1
  | .iface _ d => uptoBulk d + 1
  | .map entries => uptoBulkEntries entries + 1
  | .held _ => 1
def uptoBulkAll {H : Type} : List (DataW H) → Nat
  | [] => 0
  | d :: r => uptoBulk d + uptoBulkAll r
def uptoBulkEntries {H : Type} : List (Lit × DataW H) → Nat
  | [] => 0
  | x :: r => uptoBulkEntry x + uptoBulkEntries r
def uptoBulkEntry {H : Type} : Lit × DataW H → Nat
  | (.string bytes, d) => bytes.length + uptoBulk d + 1
  | (_, d) => uptoBulk d + 1
 end
def uptoSmall : (H : Type) → List (DataW H) → Bool := fun _ ds => decide (uptoBulkAll ds ≤ 1048576)
def OpenSpec.upto (s : _root_.Go.ChangeSpec) : _root_.Go.OpenSpec := { _root_.Go.OpenSpec.ofChange s with cond := some uptoSmall }

/-- 'laws.FnTwists', WHERE WHAT IT READS IS OF BULK AT MOST 1048576: true; the input reads as it did. -/
def fnTwistsUptoRow : OpenClaim := { program := "ytokgcchcjaimhaa", sum := "42e15a6749aa560ab60ed234c4d243c27e8d2248a0278fe45d73bb9393a6d442", func := "loop.example/g03306/laws.FnTwists", spec := "fnTwists", apart := false, narrowed := true }
def FnTwistsUptoSaid : Prop := fnTwistsUptoRow.holds Try.pinned (OpenSpec.upto fnTwistsSpec)

/-- 'laws.FnExactTwistOf', WHERE WHAT IT READS IS OF BULK AT MOST 1048576: true; the input reads as it did. -/
def fnExactTwistOfUptoRow : OpenClaim := { program := "ytokgcchcjaimhaa", sum := "42e15a6749aa560ab60ed234c4d243c27e8d2248a0278fe45d73bb9393a6d442", func := "loop.example/g03306/laws.FnExactTwistOf", spec := "fnExactTwistOf", apart := false, narrowed := true }
def FnExactTwistOfUptoSaid : Prop := fnExactTwistOfUptoRow.holds Try.pinned (OpenSpec.upto fnExactTwistOfSpec)

/-- 'laws.FnExactTwistTable', WHERE WHAT IT READS IS OF BULK AT MOST 1048576: true; the input reads as it did. -/
def fnExactTwistTableUptoRow : OpenClaim := { program := "ytokgcchcjaimhaa", sum := "42e15a6749aa560ab60ed234c4d243c27e8d2248a0278fe45d73bb9393a6d442", func := "loop.example/g03306/laws.FnExactTwistTable", spec := "fnExactTwistTable", apart := false, narrowed := true }
def FnExactTwistTableUptoSaid : Prop := fnExactTwistTableUptoRow.holds Try.pinned (OpenSpec.upto fnExactTwistTableSpec)

/-- 'laws.FnExactTotalTwist', WHERE WHAT IT READS IS OF BULK AT MOST 1048576: true; the input reads as it did. -/
def fnExactTotalTwistUptoRow : OpenClaim := { program := "ytokgcchcjaimhaa", sum := "42e15a6749aa560ab60ed234c4d243c27e8d2248a0278fe45d73bb9393a6d442", func := "loop.example/g03306/laws.FnExactTotalTwist", spec := "fnExactTotalTwist", apart := false, narrowed := true }
def FnExactTotalTwistUptoSaid : Prop := fnExactTotalTwistUptoRow.holds Try.pinned (OpenSpec.upto fnExactTotalTwistSpec)

/-- 'laws.FnExactIsUntwisted', WHERE WHAT IT READS IS OF BULK AT MOST 1048576: true; the input reads as it did. -/
def fnExactIsUntwistedUptoRow : OpenClaim := { program := "ytokgcchcjaimhaa", sum := "42e15a6749aa560ab60ed234c4d243c27e8d2248a0278fe45d73bb9393a6d442", func := "loop.example/g03306/laws.FnExactIsUntwisted", spec := "fnExactIsUntwisted", apart := false, narrowed := true }
def FnExactIsUntwistedUptoSaid : Prop := fnExactIsUntwistedUptoRow.holds Try.pinned (OpenSpec.upto fnExactIsUntwistedSpec)

/-- 'laws.FnExactWoundPairs', WHERE WHAT IT READS IS OF BULK AT MOST 1048576: true; the input reads as it did. -/
def fnExactWoundPairsUptoRow : OpenClaim := { program := "ytokgcchcjaimhaa", sum := "42e15a6749aa560ab60ed234c4d243c27e8d2248a0278fe45d73bb9393a6d442", func := "loop.example/g03306/laws.FnExactWoundPairs", spec := "fnExactWoundPairs", apart := false, narrowed := true }
def FnExactWoundPairsUptoSaid : Prop := fnExactWoundPairsUptoRow.holds Try.pinned (OpenSpec.upto fnExactWoundPairsSpec)

/-- 'laws.FnExactLeastUndoing', WHERE WHAT IT READS IS OF BULK AT MOST 1048576: true; the input reads as it did. -/
def fnExactLeastUndoingUptoRow : OpenClaim := { program := "ytokgcchcjaimhaa", sum := "42e15a6749aa560ab60ed234c4d243c27e8d2248a0278fe45d73bb9393a6d442", func := "loop.example/g03306/laws.FnExactLeastUndoing", spec := "fnExactLeastUndoing", apart := false, narrowed := true }
def FnExactLeastUndoingUptoSaid : Prop := fnExactLeastUndoingUptoRow.holds Try.pinned (OpenSpec.upto fnExactLeastUndoingSpec)

end Rows
end Go.Proofs.Ytokgcchcjaimhaa
