/-
  No cell of these rows narrows 'for every input' (looked for: loops, veiled, ifaces, maps, wideKeys, modest, calm, conditions, laid).
  DERIVED. THE GIVEN ROWS OF THIS SEAT. 5 by the template 'for every input the law returns true; each argument reads behind the call as it read before'; 0 by the template 'total and deterministic' (their statements: YthijfipjfdmoeaaTotals.lean).
  GIVEN WITH THE SEED: the statements are not yours to turn. If you find one false, say at which input.
  Laid BY PROGRAM, IN A SANDBOX (cutbox-rows.mjs): the forced cells as the released guide's own fill.sh prints them over the translation 95a8d49636c9aa2d… (all of the seat's roots in one cut). By AI agents, Wed Nov 11 2026. No macro, syntax, notation, axiom, sorry.
-/
import Derived.Test.YthijfipjfdmoeaaChecked
import GoSem.Claim
import GoSem.ClaimJoined
import GoSem.ClaimMapViews
import Derived.JoinedTies
import Derived.KernelRfl
namespace Go.Proofs.Ythijfipjfdmoeaa
/- THE CELL 'sum', in the pinned program and in every row, IS THE sha256 OF THE DUMP (.gsa) THAT YthijfipjfdmoeaaProg.lean LOADS. Nothing in Lean hashes anything: it is a label: what it is worth is what the hold of that sum in a sandbox is worth. -/
noncomputable def Try.pinned : Pinned := { name := "ythijfipjfdmoeaa", sum := "95a8d49636c9aa2deb6a33bbd11a4b5a998307716c8253fef709352c2927a476", checked := Try.checked }
namespace Rows
def none {H : Type} : Left H := { results := [], args := [] }

/-- 'laws.FnUntwisting': WHATEVER THE INPUT: true; the input reads as it did. -/
def fnUntwistingSpec : ChangeSpec := { name := "fnUntwisting", fn := fun _ => fun
  | [d] => { results := [.lit (.bool true)], args := [d] }
  | _ => none }
def fnUntwistingRow : OpenClaim := { program := "ythijfipjfdmoeaa", sum := "95a8d49636c9aa2deb6a33bbd11a4b5a998307716c8253fef709352c2927a476", func := "loop.example/g03306/laws.FnUntwisting", spec := "fnUntwisting", apart := false }
def FnUntwistingSaid : Prop := fnUntwistingRow.holds Try.pinned (OpenSpec.ofChange fnUntwistingSpec)

/-- ITS FALSE NEIGHBOUR: 'it returns false'. Refute it at one input. -/
def fnUntwistingWrong : ChangeSpec := { name := "fnUntwisting", fn := fun _ => fun
  | [d] => { results := [.lit (.bool false)], args := [d] }
  | _ => none }
def FnUntwistingWrongFalsely : Prop := fnUntwistingRow.holds Try.pinned (OpenSpec.ofChange fnUntwistingWrong)

/-- 'laws.FnExactFullTurn': WHATEVER THE INPUT: true; the input reads as it did. -/
def fnExactFullTurnSpec : ChangeSpec := { name := "fnExactFullTurn", fn := fun _ => fun
  | [d1, d2, d3, d4] => { results := [.lit (.bool true)], args := [d1, d2, d3, d4] }
  | _ => none }
def fnExactFullTurnRow : OpenClaim := { program := "ythijfipjfdmoeaa", sum := "95a8d49636c9aa2deb6a33bbd11a4b5a998307716c8253fef709352c2927a476", func := "loop.example/g03306/laws.FnExactFullTurn", spec := "fnExactFullTurn", apart := false }
def FnExactFullTurnSaid : Prop := fnExactFullTurnRow.holds Try.pinned (OpenSpec.ofChange fnExactFullTurnSpec)

/-- ITS FALSE NEIGHBOUR: 'it returns false'. Refute it at one input. -/
def fnExactFullTurnWrong : ChangeSpec := { name := "fnExactFullTurn", fn := fun _ => fun
  | [d1, d2, d3, d4] => { results := [.lit (.bool false)], args := [d1, d2, d3, d4] }
  | _ => none }
def FnExactFullTurnWrongFalsely : Prop := fnExactFullTurnRow.holds Try.pinned (OpenSpec.ofChange fnExactFullTurnWrong)

/-- 'laws.FnExactUnwindAll': WHATEVER THE INPUT: true; the input reads as it did. -/
def fnExactUnwindAllSpec : ChangeSpec := { name := "fnExactUnwindAll", fn := fun _ => fun
  | [d1, d2] => { results := [.lit (.bool true)], args := [d1, d2] }
  | _ => none }
def fnExactUnwindAllRow : OpenClaim := { program := "ythijfipjfdmoeaa", sum := "95a8d49636c9aa2deb6a33bbd11a4b5a998307716c8253fef709352c2927a476", func := "loop.example/g03306/laws.FnExactUnwindAll", spec := "fnExactUnwindAll", apart := false }
def FnExactUnwindAllSaid : Prop := fnExactUnwindAllRow.holds Try.pinned (OpenSpec.ofChange fnExactUnwindAllSpec)

/-- ITS FALSE NEIGHBOUR: 'it returns false'. Refute it at one input. -/
def fnExactUnwindAllWrong : ChangeSpec := { name := "fnExactUnwindAll", fn := fun _ => fun
  | [d1, d2] => { results := [.lit (.bool false)], args := [d1, d2] }
  | _ => none }
def FnExactUnwindAllWrongFalsely : Prop := fnExactUnwindAllRow.holds Try.pinned (OpenSpec.ofChange fnExactUnwindAllWrong)

/-- 'laws.FnExactBringHome': WHATEVER THE INPUT: true; the input reads as it did. -/
def fnExactBringHomeSpec : ChangeSpec := { name := "fnExactBringHome", fn := fun _ => fun
  | [d1, d2] => { results := [.lit (.bool true)], args := [d1, d2] }
  | _ => none }
def fnExactBringHomeRow : OpenClaim := { program := "ythijfipjfdmoeaa", sum := "95a8d49636c9aa2deb6a33bbd11a4b5a998307716c8253fef709352c2927a476", func := "loop.example/g03306/laws.FnExactBringHome", spec := "fnExactBringHome", apart := false }
def FnExactBringHomeSaid : Prop := fnExactBringHomeRow.holds Try.pinned (OpenSpec.ofChange fnExactBringHomeSpec)

/-- ITS FALSE NEIGHBOUR: 'it returns false'. Refute it at one input. -/
def fnExactBringHomeWrong : ChangeSpec := { name := "fnExactBringHome", fn := fun _ => fun
  | [d1, d2] => { results := [.lit (.bool false)], args := [d1, d2] }
  | _ => none }
def FnExactBringHomeWrongFalsely : Prop := fnExactBringHomeRow.holds Try.pinned (OpenSpec.ofChange fnExactBringHomeWrong)

/-- 'laws.FnExactJoinCrosses': WHATEVER THE INPUT: true; the input reads as it did. -/
def fnExactJoinCrossesSpec : ChangeSpec := { name := "fnExactJoinCrosses", fn := fun _ => fun
  | [d1, d2] => { results := [.lit (.bool true)], args := [d1, d2] }
  | _ => none }
def fnExactJoinCrossesRow : OpenClaim := { program := "ythijfipjfdmoeaa", sum := "95a8d49636c9aa2deb6a33bbd11a4b5a998307716c8253fef709352c2927a476", func := "loop.example/g03306/laws.FnExactJoinCrosses", spec := "fnExactJoinCrosses", apart := false }
def FnExactJoinCrossesSaid : Prop := fnExactJoinCrossesRow.holds Try.pinned (OpenSpec.ofChange fnExactJoinCrossesSpec)

/-- ITS FALSE NEIGHBOUR: 'it returns false'. Refute it at one input. -/
def fnExactJoinCrossesWrong : ChangeSpec := { name := "fnExactJoinCrosses", fn := fun _ => fun
  | [d1, d2] => { results := [.lit (.bool false)], args := [d1, d2] }
  | _ => none }
def FnExactJoinCrossesWrongFalsely : Prop := fnExactJoinCrossesRow.holds Try.pinned (OpenSpec.ofChange fnExactJoinCrossesWrong)

/- THE SECOND FORM. 'bulk': how many values and letters a reading holds, each counted each time it is reached (what is shared counts as often as it is met; a slice's spare places count too). A statement '..UptoSaid' is the law's where the arguments, and the package variables that the reading takes, are together of bulk at most 1048576: NARROWER than '..Said'. Prove '..Said' where nothing that the law and all that it calls make is longer than what came in: it says more and counts as full. Else prove '..UptoSaid'. A law counts once. -/
mutual
def uptoBulk {H : Type} : DataW H → Nat
  | .lit (.string bytes) => bytes.length + 1
  | .lit _ => 1
  | .nil => 1
  | .ptr d => uptoBulk d + 1
  | .slice elems spare => uptoBulkAll elems + uptoBulkAll spare + 1
  | .agg parts => uptoBulkAll parts + 1
  | .iface _ d => uptoBulk d + 1
  | .map entries => uptoBulkEntries entries + 1
  | .held _ => 1
def uptoBulkAll {H : Type} : List (DataW H) → Nat
  | [] => 0
  | d :: r => uptoBulk d + uptoBulkAll r
def uptoBulkEntries {H : Type} : List (Lit × DataW H) → Nat
  | [] => 0
  | x :: r => uptoBulkEntry x + uptoBulkEntries r
def uptoBulkEntry {H : Type} : Lit × DataW H → Nat
  | (.string bytes, d) => bytes.length + uptoBulk d + 1
  | (_, d) => uptoBulk d + 1
 end
def uptoSmall : (H : Type) → List (DataW H) → Bool := fun _ ds => decide (uptoBulkAll ds ≤ 1048576)
def OpenSpec.upto (s : _root_.Go.ChangeSpec) : _root_.Go.OpenSpec := { _root_.Go.OpenSpec.ofChange s with cond := some uptoSmall }

/-- 'laws.FnUntwisting', WHERE WHAT IT READS IS OF BULK AT MOST 1048576: true; the input reads as it did. -/
def fnUntwistingUptoRow : OpenClaim := { program := "ythijfipjfdmoeaa", sum := "95a8d49636c9aa2deb6a33bbd11a4b5a998307716c8253fef709352c2927a476", func := "loop.example/g03306/laws.FnUntwisting", spec := "fnUntwisting", apart := false, narrowed := true }
def FnUntwistingUptoSaid : Prop := fnUntwistingUptoRow.holds Try.pinned (OpenSpec.upto fnUntwistingSpec)

/-- 'laws.FnExactFullTurn', WHERE WHAT IT READS IS OF BULK AT MOST 1048576: true; the input reads as it did. -/
def fnExactFullTurnUptoRow : OpenClaim := { program := "ythijfipjfdmoeaa", sum := "95a8d49636c9aa2deb6a33bbd11a4b5a998307716c8253fef709352c2927a476", func := "loop.example/g03306/laws.FnExactFullTurn", spec := "fnExactFullTurn", apart := false, narrowed := true }
def FnExactFullTurnUptoSaid : Prop := fnExactFullTurnUptoRow.holds Try.pinned (OpenSpec.upto fnExactFullTurnSpec)

/-- 'laws.FnExactUnwindAll', WHERE WHAT IT READS IS OF BULK AT MOST 1048576: true; the input reads as it did. -/
def fnExactUnwindAllUptoRow : OpenClaim := { program := "ythijfipjfdmoeaa", sum := "95a8d49636c9aa2deb6a33bbd11a4b5a998307716c8253fef709352c2927a476", func := "loop.example/g03306/laws.FnExactUnwindAll", spec := "fnExactUnwindAll", apart := false, narrowed := true }
def FnExactUnwindAllUptoSaid : Prop := fnExactUnwindAllUptoRow.holds Try.pinned (OpenSpec.upto fnExactUnwindAllSpec)

/-- 'laws.FnExactBringHome', WHERE WHAT IT READS IS OF BULK AT MOST 1048576: true; the input reads as it did. -/
def fnExactBringHomeUptoRow : OpenClaim := { program := "ythijfipjfdmoeaa", sum := "95a8d49636c9aa2deb6a33bbd11a4b5a998307716c8253fef709352c2927a476", func := "loop.example/g03306/laws.FnExactBringHome", spec := "fnExactBringHome", apart := false, narrowed := true }
def FnExactBringHomeUptoSaid : Prop := fnExactBringHomeUptoRow.holds Try.pinned (OpenSpec.upto fnExactBringHomeSpec)

/-- 'laws.FnExactJoinCrosses', WHERE WHAT IT READS IS OF BULK AT MOST 1048576: true; the input reads as it did. -/
def fnExactJoinCrossesUptoRow : OpenClaim := { program := "ythijfipjfdmoeaa", sum := "95a8d49636c9aa2deb6a33bbd11a4b5a998307716c8253fef709352c2927a476", func := "loop.example/g03306/laws.FnExactJoinCrosses", spec := "fnExactJoinCrosses", apart := false, narrowed := true }
def FnExactJoinCrossesUptoSaid : Prop := fnExactJoinCrossesUptoRow.holds Try.pinned (OpenSpec.upto fnExactJoinCrossesSpec)

end Rows
end Go.Proofs.Ythijfipjfdmoeaa
