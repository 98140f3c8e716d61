/-
  No cell of these rows narrows 'for every input' (looked for: loops, veiled, ifaces, maps, wideKeys, modest, calm, conditions, laid).
  DERIVED. THE GIVEN ROWS OF THIS SEAT. 7 by the template 'for every input the law returns true; each argument reads behind the call as it read before'; 0 by the template 'total and deterministic' (their statements: YtbcibgibcojoeaaTotals.lean).
  GIVEN WITH THE SEED: the statements are not yours to turn. If you find one false, say at which input.
  Laid BY PROGRAM, IN A SANDBOX (cutbox-rows.mjs): the forced cells as the released guide's own fill.sh prints them over the translation 17a6d81796e53d3c… (all of the seat's roots in one cut). By AI agents, Wed Nov 11 2026. No macro, syntax, notation, axiom, sorry.
-/
import Derived.Test.YtbcibgibcojoeaaChecked
import GoSem.Claim
import GoSem.ClaimJoined
import GoSem.ClaimMapViews
import Derived.JoinedTies
import Derived.KernelRfl
namespace Go.Proofs.Ytbcibgibcojoeaa
/- THE CELL 'sum', in the pinned program and in every row, IS THE sha256 OF THE DUMP (.gsa) THAT YtbcibgibcojoeaaProg.lean LOADS. Nothing in Lean hashes anything: it is a label: what it is worth is what the hold of that sum in a sandbox is worth. -/
noncomputable def Try.pinned : Pinned := { name := "ytbcibgibcojoeaa", sum := "17a6d81796e53d3c8e171dad3457151ab4e173960c0dee5f67ec672b2c086df7", checked := Try.checked }
namespace Rows
def none {H : Type} : Left H := { results := [], args := [] }

/-- 'laws.FnCrossings': WHATEVER THE INPUT: true; the input reads as it did. -/
def fnCrossingsSpec : ChangeSpec := { name := "fnCrossings", fn := fun _ => fun
  | [d] => { results := [.lit (.bool true)], args := [d] }
  | _ => none }
def fnCrossingsRow : OpenClaim := { program := "ytbcibgibcojoeaa", sum := "17a6d81796e53d3c8e171dad3457151ab4e173960c0dee5f67ec672b2c086df7", func := "loop.example/g03306/laws.FnCrossings", spec := "fnCrossings", unfollowed := true, recurses := true, apart := false }
def FnCrossingsSaid : Prop := fnCrossingsRow.holds Try.pinned (OpenSpec.ofChange fnCrossingsSpec)

/-- ITS FALSE NEIGHBOUR: 'it returns false'. Refute it at one input. -/
def fnCrossingsWrong : ChangeSpec := { name := "fnCrossings", fn := fun _ => fun
  | [d] => { results := [.lit (.bool false)], args := [d] }
  | _ => none }
def FnCrossingsWrongFalsely : Prop := fnCrossingsRow.holds Try.pinned (OpenSpec.ofChange fnCrossingsWrong)

/-- 'laws.FnExactCrossesOk': WHATEVER THE INPUT: true; the input reads as it did. -/
def fnExactCrossesOkSpec : ChangeSpec := { name := "fnExactCrossesOk", fn := fun _ => fun
  | [d1, d2] => { results := [.lit (.bool true)], args := [d1, d2] }
  | _ => none }
def fnExactCrossesOkRow : OpenClaim := { program := "ytbcibgibcojoeaa", sum := "17a6d81796e53d3c8e171dad3457151ab4e173960c0dee5f67ec672b2c086df7", func := "loop.example/g03306/laws.FnExactCrossesOk", spec := "fnExactCrossesOk", apart := false }
def FnExactCrossesOkSaid : Prop := fnExactCrossesOkRow.holds Try.pinned (OpenSpec.ofChange fnExactCrossesOkSpec)

/-- ITS FALSE NEIGHBOUR: 'it returns false'. Refute it at one input. -/
def fnExactCrossesOkWrong : ChangeSpec := { name := "fnExactCrossesOk", fn := fun _ => fun
  | [d1, d2] => { results := [.lit (.bool false)], args := [d1, d2] }
  | _ => none }
def FnExactCrossesOkWrongFalsely : Prop := fnExactCrossesOkRow.holds Try.pinned (OpenSpec.ofChange fnExactCrossesOkWrong)

/-- 'laws.FnExactOrderAfter': WHATEVER THE INPUT: true; the input reads as it did. -/
def fnExactOrderAfterSpec : ChangeSpec := { name := "fnExactOrderAfter", fn := fun _ => fun
  | [d1, d2] => { results := [.lit (.bool true)], args := [d1, d2] }
  | _ => none }
def fnExactOrderAfterRow : OpenClaim := { program := "ytbcibgibcojoeaa", sum := "17a6d81796e53d3c8e171dad3457151ab4e173960c0dee5f67ec672b2c086df7", func := "loop.example/g03306/laws.FnExactOrderAfter", spec := "fnExactOrderAfter", apart := false }
def FnExactOrderAfterSaid : Prop := fnExactOrderAfterRow.holds Try.pinned (OpenSpec.ofChange fnExactOrderAfterSpec)

/-- ITS FALSE NEIGHBOUR: 'it returns false'. Refute it at one input. -/
def fnExactOrderAfterWrong : ChangeSpec := { name := "fnExactOrderAfter", fn := fun _ => fun
  | [d1, d2] => { results := [.lit (.bool false)], args := [d1, d2] }
  | _ => none }
def FnExactOrderAfterWrongFalsely : Prop := fnExactOrderAfterRow.holds Try.pinned (OpenSpec.ofChange fnExactOrderAfterWrong)

/-- 'laws.FnExactPairsOf': WHATEVER THE INPUT: true; the input reads as it did. -/
def fnExactPairsOfSpec : ChangeSpec := { name := "fnExactPairsOf", fn := fun _ => fun
  | [d1, d2] => { results := [.lit (.bool true)], args := [d1, d2] }
  | _ => none }
def fnExactPairsOfRow : OpenClaim := { program := "ytbcibgibcojoeaa", sum := "17a6d81796e53d3c8e171dad3457151ab4e173960c0dee5f67ec672b2c086df7", func := "loop.example/g03306/laws.FnExactPairsOf", spec := "fnExactPairsOf", apart := false }
def FnExactPairsOfSaid : Prop := fnExactPairsOfRow.holds Try.pinned (OpenSpec.ofChange fnExactPairsOfSpec)

/-- ITS FALSE NEIGHBOUR: 'it returns false'. Refute it at one input. -/
def fnExactPairsOfWrong : ChangeSpec := { name := "fnExactPairsOf", fn := fun _ => fun
  | [d1, d2] => { results := [.lit (.bool false)], args := [d1, d2] }
  | _ => none }
def FnExactPairsOfWrongFalsely : Prop := fnExactPairsOfRow.holds Try.pinned (OpenSpec.ofChange fnExactPairsOfWrong)

/-- 'laws.FnExactUndoCrosses': WHATEVER THE INPUT: true; the input reads as it did. -/
def fnExactUndoCrossesSpec : ChangeSpec := { name := "fnExactUndoCrosses", fn := fun _ => fun
  | [d] => { results := [.lit (.bool true)], args := [d] }
  | _ => none }
def fnExactUndoCrossesRow : OpenClaim := { program := "ytbcibgibcojoeaa", sum := "17a6d81796e53d3c8e171dad3457151ab4e173960c0dee5f67ec672b2c086df7", func := "loop.example/g03306/laws.FnExactUndoCrosses", spec := "fnExactUndoCrosses", apart := false }
def FnExactUndoCrossesSaid : Prop := fnExactUndoCrossesRow.holds Try.pinned (OpenSpec.ofChange fnExactUndoCrossesSpec)

/-- ITS FALSE NEIGHBOUR: 'it returns false'. Refute it at one input. -/
def fnExactUndoCrossesWrong : ChangeSpec := { name := "fnExactUndoCrosses", fn := fun _ => fun
  | [d] => { results := [.lit (.bool false)], args := [d] }
  | _ => none }
def FnExactUndoCrossesWrongFalsely : Prop := fnExactUndoCrossesRow.holds Try.pinned (OpenSpec.ofChange fnExactUndoCrossesWrong)

/-- 'laws.FnExactReduced': WHATEVER THE INPUT: true; the input reads as it did. -/
def fnExactReducedSpec : ChangeSpec := { name := "fnExactReduced", fn := fun _ => fun
  | [d1, d2] => { results := [.lit (.bool true)], args := [d1, d2] }
  | _ => none }
def fnExactReducedRow : OpenClaim := { program := "ytbcibgibcojoeaa", sum := "17a6d81796e53d3c8e171dad3457151ab4e173960c0dee5f67ec672b2c086df7", func := "loop.example/g03306/laws.FnExactReduced", spec := "fnExactReduced", unfollowed := true, recurses := true, apart := false }
def FnExactReducedSaid : Prop := fnExactReducedRow.holds Try.pinned (OpenSpec.ofChange fnExactReducedSpec)

/-- ITS FALSE NEIGHBOUR: 'it returns false'. Refute it at one input. -/
def fnExactReducedWrong : ChangeSpec := { name := "fnExactReduced", fn := fun _ => fun
  | [d1, d2] => { results := [.lit (.bool false)], args := [d1, d2] }
  | _ => none }
def FnExactReducedWrongFalsely : Prop := fnExactReducedRow.holds Try.pinned (OpenSpec.ofChange fnExactReducedWrong)

/-- 'laws.FnExactCountFront': WHATEVER THE INPUT: true; the input reads as it did. -/
def fnExactCountFrontSpec : ChangeSpec := { name := "fnExactCountFront", fn := fun _ => fun
  | [d1, d2, d3] => { results := [.lit (.bool true)], args := [d1, d2, d3] }
  | _ => none }
def fnExactCountFrontRow : OpenClaim := { program := "ytbcibgibcojoeaa", sum := "17a6d81796e53d3c8e171dad3457151ab4e173960c0dee5f67ec672b2c086df7", func := "loop.example/g03306/laws.FnExactCountFront", spec := "fnExactCountFront", apart := false }
def FnExactCountFrontSaid : Prop := fnExactCountFrontRow.holds Try.pinned (OpenSpec.ofChange fnExactCountFrontSpec)

/-- ITS FALSE NEIGHBOUR: 'it returns false'. Refute it at one input. -/
def fnExactCountFrontWrong : ChangeSpec := { name := "fnExactCountFront", fn := fun _ => fun
  | [d1, d2, d3] => { results := [.lit (.bool false)], args := [d1, d2, d3] }
  | _ => none }
def FnExactCountFrontWrongFalsely : Prop := fnExactCountFrontRow.holds Try.pinned (OpenSpec.ofChange fnExactCountFrontWrong)

/- THE SECOND FORM. 'bulk': how many values and letters a reading holds, each counted each time it is reached (what is shared counts as often as it is met; a slice's spare places count too). A statement '..UptoSaid' is the law's where the arguments, and the package variables that the reading takes, are together of bulk at most 1048576: NARROWER than '..Said'. Prove '..Said' where nothing that the law and all that it calls make is longer than what came in: it says more and counts as full. Else prove '..UptoSaid'. A law counts once. -/
mutual
def uptoBulk {H : Type} : DataW H → Nat
  | .lit (.string bytes) => bytes.length + 1
  | .lit _ => 1
  | .nil => 1
  | .ptr d => uptoBulk d + 1
  | .slice elems spare => uptoBulkAll elems + uptoBulkAll spare + 1
  | .agg parts => uptoBulkAll parts + 1
  | .iface _ d => uptoBulk d + 1
  | .map entries => uptoBulkEntries entries + 1
  | .held _ => 1
def uptoBulkAll {H : Type} : List (DataW H) → Nat
  | [] => 0
  | d :: r => uptoBulk d + uptoBulkAll r
def uptoBulkEntries {H : Type} : List (Lit × DataW H) → Nat
  | [] => 0
  | x :: r => uptoBulkEntry x + uptoBulkEntries r
def uptoBulkEntry {H : Type} : Lit × DataW H → Nat
  | (.string bytes, d) => bytes.length + uptoBulk d + 1
  | (_, d) => uptoBulk d + 1
 end
def uptoSmall : (H : Type) → List (DataW H) → Bool := fun _ ds => decide (uptoBulkAll ds ≤ 1048576)
def OpenSpec.upto (s : _root_.Go.ChangeSpec) : _root_.Go.OpenSpec := { _root_.Go.OpenSpec.ofChange s with cond := some uptoSmall }

/-- 'laws.FnCrossings', WHERE WHAT IT READS IS OF BULK AT MOST 1048576: true; the input reads as it did. -/
def fnCrossingsUptoRow : OpenClaim := { program := "ytbcibgibcojoeaa", sum := "17a6d81796e53d3c8e171dad3457151ab4e173960c0dee5f67ec672b2c086df7", func := "loop.example/g03306/laws.FnCrossings", spec := "fnCrossings", unfollowed := true, recurses := true, apart := false, narrowed := true }
def FnCrossingsUptoSaid : Prop := fnCrossingsUptoRow.holds Try.pinned (OpenSpec.upto fnCrossingsSpec)

/-- 'laws.FnExactCrossesOk', WHERE WHAT IT READS IS OF BULK AT MOST 1048576: true; the input reads as it did. -/
def fnExactCrossesOkUptoRow : OpenClaim := { program := "ytbcibgibcojoeaa", sum := "17a6d81796e53d3c8e171dad3457151ab4e173960c0dee5f67ec672b2c086df7", func := "loop.example/g03306/laws.FnExactCrossesOk", spec := "fnExactCrossesOk", apart := false, narrowed := true }
def FnExactCrossesOkUptoSaid : Prop := fnExactCrossesOkUptoRow.holds Try.pinned (OpenSpec.upto fnExactCrossesOkSpec)

/-- 'laws.FnExactOrderAfter', WHERE WHAT IT READS IS OF BULK AT MOST 1048576: true; the input reads as it did. -/
def fnExactOrderAfterUptoRow : OpenClaim := { program := "ytbcibgibcojoeaa", sum := "17a6d81796e53d3c8e171dad3457151ab4e173960c0dee5f67ec672b2c086df7", func := "loop.example/g03306/laws.FnExactOrderAfter", spec := "fnExactOrderAfter", apart := false, narrowed := true }
def FnExactOrderAfterUptoSaid : Prop := fnExactOrderAfterUptoRow.holds Try.pinned (OpenSpec.upto fnExactOrderAfterSpec)

/-- 'laws.FnExactPairsOf', WHERE WHAT IT READS IS OF BULK AT MOST 1048576: true; the input reads as it did. -/
def fnExactPairsOfUptoRow : OpenClaim := { program := "ytbcibgibcojoeaa", sum := "17a6d81796e53d3c8e171dad3457151ab4e173960c0dee5f67ec672b2c086df7", func := "loop.example/g03306/laws.FnExactPairsOf", spec := "fnExactPairsOf", apart := false, narrowed := true }
def FnExactPairsOfUptoSaid : Prop := fnExactPairsOfUptoRow.holds Try.pinned (OpenSpec.upto fnExactPairsOfSpec)

/-- 'laws.FnExactUndoCrosses', WHERE WHAT IT READS IS OF BULK AT MOST 1048576: true; the input reads as it did. -/
def fnExactUndoCrossesUptoRow : OpenClaim := { program := "ytbcibgibcojoeaa", sum := "17a6d81796e53d3c8e171dad3457151ab4e173960c0dee5f67ec672b2c086df7", func := "loop.example/g03306/laws.FnExactUndoCrosses", spec := "fnExactUndoCrosses", apart := false, narrowed := true }
def FnExactUndoCrossesUptoSaid : Prop := fnExactUndoCrossesUptoRow.holds Try.pinned (OpenSpec.upto fnExactUndoCrossesSpec)

/-- 'laws.FnExactReduced', WHERE WHAT IT READS IS OF BULK AT MOST 1048576: true; the input reads as it did. -/
def fnExactReducedUptoRow : OpenClaim := { program := "ytbcibgibcojoeaa", sum := "17a6d81796e53d3c8e171dad3457151ab4e173960c0dee5f67ec672b2c086df7", func := "loop.example/g03306/laws.FnExactReduced", spec := "fnExactReduced", unfollowed := true, recurses := true, apart := false, narrowed := true }
def FnExactReducedUptoSaid : Prop := fnExactReducedUptoRow.holds Try.pinned (OpenSpec.upto fnExactReducedSpec)

/-- 'laws.FnExactCountFront', WHERE WHAT IT READS IS OF BULK AT MOST 1048576: true; the input reads as it did. -/
def fnExactCountFrontUptoRow : OpenClaim := { program := "ytbcibgibcojoeaa", sum := "17a6d81796e53d3c8e171dad3457151ab4e173960c0dee5f67ec672b2c086df7", func := "loop.example/g03306/laws.FnExactCountFront", spec := "fnExactCountFront", apart := false, narrowed := true }
def FnExactCountFrontUptoSaid : Prop := fnExactCountFrontUptoRow.holds Try.pinned (OpenSpec.upto fnExactCountFrontSpec)

end Rows
end Go.Proofs.Ytbcibgibcojoeaa
