/-
  No cell of these rows narrows 'for every input' (looked for: loops, veiled, ifaces, maps, wideKeys, modest, calm, conditions, laid).
  DERIVED. THE GIVEN ROWS OF THIS SEAT. 7 by the template 'for every input the law returns true; each argument reads behind the call as it read before'; 0 by the template 'total and deterministic' (their statements: YtbgogcobkiaejaaTotals.lean).
  GIVEN WITH THE SEED: the statements are not yours to turn. If you find one false, say at which input.
  Laid BY PROGRAM, IN A SANDBOX (cutbox-rows.mjs): the forced cells as the released guide's own fill.sh prints them over the translation eb3ed1fcb0850033… (all of the seat's roots in one cut). By AI agents, Wed Nov 11 2026. No macro, syntax, notation, axiom, sorry.
-/
import Derived.Test.YtbgogcobkiaejaaChecked
import GoSem.Claim
import GoSem.ClaimJoined
import GoSem.ClaimMapViews
import Derived.JoinedTies
import Derived.KernelRfl
namespace Go.Proofs.Ytbgogcobkiaejaa
/- THE CELL 'sum', in the pinned program and in every row, IS THE sha256 OF THE DUMP (.gsa) THAT YtbgogcobkiaejaaProg.lean LOADS. Nothing in Lean hashes anything: it is a label: what it is worth is what the hold of that sum in a sandbox is worth. -/
noncomputable def Try.pinned : Pinned := { name := "ytbgogcobkiaejaa", sum := "eb3ed1fcb08500333f2a501a80dcd7035e9d1b0b6221b5c8df1d9243637470b0", checked := Try.checked }
namespace Rows
def none {H : Type} : Left H := { results := [], args := [] }

/-- 'laws.FnHands': WHATEVER THE INPUT: true; the input reads as it did. -/
def fnHandsSpec : ChangeSpec := { name := "fnHands", fn := fun _ => fun
  | [d] => { results := [.lit (.bool true)], args := [d] }
  | _ => none }
def fnHandsRow : OpenClaim := { program := "ytbgogcobkiaejaa", sum := "eb3ed1fcb08500333f2a501a80dcd7035e9d1b0b6221b5c8df1d9243637470b0", func := "loop.example/g03306/laws.FnHands", spec := "fnHands", plainKeys := false, apart := false }
def FnHandsSaid : Prop := fnHandsRow.holds Try.pinned (OpenSpec.ofChange fnHandsSpec)

/-- ITS FALSE NEIGHBOUR: 'it returns false'. Refute it at one input. -/
def fnHandsWrong : ChangeSpec := { name := "fnHands", fn := fun _ => fun
  | [d] => { results := [.lit (.bool false)], args := [d] }
  | _ => none }
def FnHandsWrongFalsely : Prop := fnHandsRow.holds Try.pinned (OpenSpec.ofChange fnHandsWrong)

/-- 'laws.FnExactPlayersOk': WHATEVER THE INPUT: true; the input reads as it did. -/
def fnExactPlayersOkSpec : ChangeSpec := { name := "fnExactPlayersOk", fn := fun _ => fun
  | [d] => { results := [.lit (.bool true)], args := [d] }
  | _ => none }
def fnExactPlayersOkRow : OpenClaim := { program := "ytbgogcobkiaejaa", sum := "eb3ed1fcb08500333f2a501a80dcd7035e9d1b0b6221b5c8df1d9243637470b0", func := "loop.example/g03306/laws.FnExactPlayersOk", spec := "fnExactPlayersOk", plainKeys := false, apart := false }
def FnExactPlayersOkSaid : Prop := fnExactPlayersOkRow.holds Try.pinned (OpenSpec.ofChange fnExactPlayersOkSpec)

/-- ITS FALSE NEIGHBOUR: 'it returns false'. Refute it at one input. -/
def fnExactPlayersOkWrong : ChangeSpec := { name := "fnExactPlayersOk", fn := fun _ => fun
  | [d] => { results := [.lit (.bool false)], args := [d] }
  | _ => none }
def FnExactPlayersOkWrongFalsely : Prop := fnExactPlayersOkRow.holds Try.pinned (OpenSpec.ofChange fnExactPlayersOkWrong)

/-- 'laws.FnExactHandsFree': WHATEVER THE INPUT: true; the input reads as it did. -/
def fnExactHandsFreeSpec : ChangeSpec := { name := "fnExactHandsFree", fn := fun _ => fun
  | [d] => { results := [.lit (.bool true)], args := [d] }
  | _ => none }
def fnExactHandsFreeRow : OpenClaim := { program := "ytbgogcobkiaejaa", sum := "eb3ed1fcb08500333f2a501a80dcd7035e9d1b0b6221b5c8df1d9243637470b0", func := "loop.example/g03306/laws.FnExactHandsFree", spec := "fnExactHandsFree", plainKeys := false, apart := false }
def FnExactHandsFreeSaid : Prop := fnExactHandsFreeRow.holds Try.pinned (OpenSpec.ofChange fnExactHandsFreeSpec)

/-- ITS FALSE NEIGHBOUR: 'it returns false'. Refute it at one input. -/
def fnExactHandsFreeWrong : ChangeSpec := { name := "fnExactHandsFree", fn := fun _ => fun
  | [d] => { results := [.lit (.bool false)], args := [d] }
  | _ => none }
def FnExactHandsFreeWrongFalsely : Prop := fnExactHandsFreeRow.holds Try.pinned (OpenSpec.ofChange fnExactHandsFreeWrong)

/-- 'laws.FnExactWhoKnows': WHATEVER THE INPUT: true; the input reads as it did. -/
def fnExactWhoKnowsSpec : ChangeSpec := { name := "fnExactWhoKnows", fn := fun _ => fun
  | [d1, d2] => { results := [.lit (.bool true)], args := [d1, d2] }
  | _ => none }
def fnExactWhoKnowsRow : OpenClaim := { program := "ytbgogcobkiaejaa", sum := "eb3ed1fcb08500333f2a501a80dcd7035e9d1b0b6221b5c8df1d9243637470b0", func := "loop.example/g03306/laws.FnExactWhoKnows", spec := "fnExactWhoKnows", plainKeys := false, apart := false }
def FnExactWhoKnowsSaid : Prop := fnExactWhoKnowsRow.holds Try.pinned (OpenSpec.ofChange fnExactWhoKnowsSpec)

/-- ITS FALSE NEIGHBOUR: 'it returns false'. Refute it at one input. -/
def fnExactWhoKnowsWrong : ChangeSpec := { name := "fnExactWhoKnows", fn := fun _ => fun
  | [d1, d2] => { results := [.lit (.bool false)], args := [d1, d2] }
  | _ => none }
def FnExactWhoKnowsWrongFalsely : Prop := fnExactWhoKnowsRow.holds Try.pinned (OpenSpec.ofChange fnExactWhoKnowsWrong)

/-- 'laws.FnExactIsCasting': WHATEVER THE INPUT: true; the input reads as it did. -/
def fnExactIsCastingSpec : ChangeSpec := { name := "fnExactIsCasting", fn := fun _ => fun
  | [d1, d2, d3] => { results := [.lit (.bool true)], args := [d1, d2, d3] }
  | _ => none }
def fnExactIsCastingRow : OpenClaim := { program := "ytbgogcobkiaejaa", sum := "eb3ed1fcb08500333f2a501a80dcd7035e9d1b0b6221b5c8df1d9243637470b0", func := "loop.example/g03306/laws.FnExactIsCasting", spec := "fnExactIsCasting", plainKeys := false, apart := false }
def FnExactIsCastingSaid : Prop := fnExactIsCastingRow.holds Try.pinned (OpenSpec.ofChange fnExactIsCastingSpec)

/-- ITS FALSE NEIGHBOUR: 'it returns false'. Refute it at one input. -/
def fnExactIsCastingWrong : ChangeSpec := { name := "fnExactIsCasting", fn := fun _ => fun
  | [d1, d2, d3] => { results := [.lit (.bool false)], args := [d1, d2, d3] }
  | _ => none }
def FnExactIsCastingWrongFalsely : Prop := fnExactIsCastingRow.holds Try.pinned (OpenSpec.ofChange fnExactIsCastingWrong)

/-- 'laws.FnExactFirstCasting': WHATEVER THE INPUT: true; the input reads as it did. -/
def fnExactFirstCastingSpec : ChangeSpec := { name := "fnExactFirstCasting", fn := fun _ => fun
  | [d1, d2] => { results := [.lit (.bool true)], args := [d1, d2] }
  | _ => none }
def fnExactFirstCastingRow : OpenClaim := { program := "ytbgogcobkiaejaa", sum := "eb3ed1fcb08500333f2a501a80dcd7035e9d1b0b6221b5c8df1d9243637470b0", func := "loop.example/g03306/laws.FnExactFirstCasting", spec := "fnExactFirstCasting", recurses := true, plainKeys := false, apart := false }
def FnExactFirstCastingSaid : Prop := fnExactFirstCastingRow.holds Try.pinned (OpenSpec.ofChange fnExactFirstCastingSpec)

/-- ITS FALSE NEIGHBOUR: 'it returns false'. Refute it at one input. -/
def fnExactFirstCastingWrong : ChangeSpec := { name := "fnExactFirstCasting", fn := fun _ => fun
  | [d1, d2] => { results := [.lit (.bool false)], args := [d1, d2] }
  | _ => none }
def FnExactFirstCastingWrongFalsely : Prop := fnExactFirstCastingRow.holds Try.pinned (OpenSpec.ofChange fnExactFirstCastingWrong)

/-- 'laws.FnExactLoadOf': WHATEVER THE INPUT: true; the input reads as it did. -/
def fnExactLoadOfSpec : ChangeSpec := { name := "fnExactLoadOf", fn := fun _ => fun
  | [d1, d2] => { results := [.lit (.bool true)], args := [d1, d2] }
  | _ => none }
def fnExactLoadOfRow : OpenClaim := { program := "ytbgogcobkiaejaa", sum := "eb3ed1fcb08500333f2a501a80dcd7035e9d1b0b6221b5c8df1d9243637470b0", func := "loop.example/g03306/laws.FnExactLoadOf", spec := "fnExactLoadOf", plainKeys := false, apart := false }
def FnExactLoadOfSaid : Prop := fnExactLoadOfRow.holds Try.pinned (OpenSpec.ofChange fnExactLoadOfSpec)

/-- ITS FALSE NEIGHBOUR: 'it returns false'. Refute it at one input. -/
def fnExactLoadOfWrong : ChangeSpec := { name := "fnExactLoadOf", fn := fun _ => fun
  | [d1, d2] => { results := [.lit (.bool false)], args := [d1, d2] }
  | _ => none }
def FnExactLoadOfWrongFalsely : Prop := fnExactLoadOfRow.holds Try.pinned (OpenSpec.ofChange fnExactLoadOfWrong)

/- THE SECOND FORM. 'bulk': how many values and letters a reading holds, each counted each time it is reached (what is shared counts as often as it is met; a slice's spare places count too). A statement '..UptoSaid' is the law's where the arguments, and the package variables that the reading takes, are together of bulk at most 1048576: NARROWER than '..Said'. Prove '..Said' where nothing that the law and all that it calls make is longer than what came in: it says more and counts as full. Else prove '..UptoSaid'. A law counts once. -/
mutual
def uptoBulk {H : Type} : DataW H → Nat
  | .lit (.string bytes) => bytes.length + 1
  | .lit _ => 1
  | .nil => 1
  | .ptr d => uptoBulk d + 1
  | .slice elems spare => uptoBulkAll elems + uptoBulkAll spare + 1
  | .agg parts => uptoBulkAll parts + 1
  | .iface _ d => uptoBulk d + 1
  | .map entries => uptoBulkEntries entries + 1
  | .held _ => 1
def uptoBulkAll {H : Type} : List (DataW H) → Nat
  | [] => 0
  | d :: r => uptoBulk d + uptoBulkAll r
def uptoBulkEntries {H : Type} : List (Lit × DataW H) → Nat
  | [] => 0
  | x :: r => uptoBulkEntry x + uptoBulkEntries r
def uptoBulkEntry {H : Type} : Lit × DataW H → Nat
  | (.string bytes, d) => bytes.length + uptoBulk d + 1
  | (_, d) => uptoBulk d + 1
 end
def uptoSmall : (H : Type) → List (DataW H) → Bool := fun _ ds => decide (uptoBulkAll ds ≤ 1048576)
def OpenSpec.upto (s : _root_.Go.ChangeSpec) : _root_.Go.OpenSpec := { _root_.Go.OpenSpec.ofChange s with cond := some uptoSmall }

/-- 'laws.FnHands', WHERE WHAT IT READS IS OF BULK AT MOST 1048576: true; the input reads as it did. -/
def fnHandsUptoRow : OpenClaim := { program := "ytbgogcobkiaejaa", sum := "eb3ed1fcb08500333f2a501a80dcd7035e9d1b0b6221b5c8df1d9243637470b0", func := "loop.example/g03306/laws.FnHands", spec := "fnHands", plainKeys := false, apart := false, narrowed := true }
def FnHandsUptoSaid : Prop := fnHandsUptoRow.holds Try.pinned (OpenSpec.upto fnHandsSpec)

/-- 'laws.FnExactPlayersOk', WHERE WHAT IT READS IS OF BULK AT MOST 1048576: true; the input reads as it did. -/
def fnExactPlayersOkUptoRow : OpenClaim := { program := "ytbgogcobkiaejaa", sum := "eb3ed1fcb08500333f2a501a80dcd7035e9d1b0b6221b5c8df1d9243637470b0", func := "loop.example/g03306/laws.FnExactPlayersOk", spec := "fnExactPlayersOk", plainKeys := false, apart := false, narrowed := true }
def FnExactPlayersOkUptoSaid : Prop := fnExactPlayersOkUptoRow.holds Try.pinned (OpenSpec.upto fnExactPlayersOkSpec)

/-- 'laws.FnExactHandsFree', WHERE WHAT IT READS IS OF BULK AT MOST 1048576: true; the input reads as it did. -/
def fnExactHandsFreeUptoRow : OpenClaim := { program := "ytbgogcobkiaejaa", sum := "eb3ed1fcb08500333f2a501a80dcd7035e9d1b0b6221b5c8df1d9243637470b0", func := "loop.example/g03306/laws.FnExactHandsFree", spec := "fnExactHandsFree", plainKeys := false, apart := false, narrowed := true }
def FnExactHandsFreeUptoSaid : Prop := fnExactHandsFreeUptoRow.holds Try.pinned (OpenSpec.upto fnExactHandsFreeSpec)

/-- 'laws.FnExactWhoKnows', WHERE WHAT IT READS IS OF BULK AT MOST 1048576: true; the input reads as it did. -/
def fnExactWhoKnowsUptoRow : OpenClaim := { program := "ytbgogcobkiaejaa", sum := "eb3ed1fcb08500333f2a501a80dcd7035e9d1b0b6221b5c8df1d9243637470b0", func := "loop.example/g03306/laws.FnExactWhoKnows", spec := "fnExactWhoKnows", plainKeys := false, apart := false, narrowed := true }
def FnExactWhoKnowsUptoSaid : Prop := fnExactWhoKnowsUptoRow.holds Try.pinned (OpenSpec.upto fnExactWhoKnowsSpec)

/-- 'laws.FnExactIsCasting', WHERE WHAT IT READS IS OF BULK AT MOST 1048576: true; the input reads as it did. -/
def fnExactIsCastingUptoRow : OpenClaim := { program := "ytbgogcobkiaejaa", sum := "eb3ed1fcb08500333f2a501a80dcd7035e9d1b0b6221b5c8df1d9243637470b0", func := "loop.example/g03306/laws.FnExactIsCasting", spec := "fnExactIsCasting", plainKeys := false, apart := false, narrowed := true }
def FnExactIsCastingUptoSaid : Prop := fnExactIsCastingUptoRow.holds Try.pinned (OpenSpec.upto fnExactIsCastingSpec)

/-- 'laws.FnExactFirstCasting', WHERE WHAT IT READS IS OF BULK AT MOST 1048576: true; the input reads as it did. -/
def fnExactFirstCastingUptoRow : OpenClaim := { program := "ytbgogcobkiaejaa", sum := "eb3ed1fcb08500333f2a501a80dcd7035e9d1b0b6221b5c8df1d9243637470b0", func := "loop.example/g03306/laws.FnExactFirstCasting", spec := "fnExactFirstCasting", recurses := true, plainKeys := false, apart := false, narrowed := true }
def FnExactFirstCastingUptoSaid : Prop := fnExactFirstCastingUptoRow.holds Try.pinned (OpenSpec.upto fnExactFirstCastingSpec)

/-- 'laws.FnExactLoadOf', WHERE WHAT IT READS IS OF BULK AT MOST 1048576: true; the input reads as it did. -/
def fnExactLoadOfUptoRow : OpenClaim := { program := "ytbgogcobkiaejaa", sum := "eb3ed1fcb08500333f2a501a80dcd7035e9d1b0b6221b5c8df1d9243637470b0", func := "loop.example/g03306/laws.FnExactLoadOf", spec := "fnExactLoadOf", plainKeys := false, apart := false, narrowed := true }
def FnExactLoadOfUptoSaid : Prop := fnExactLoadOfUptoRow.holds Try.pinned (OpenSpec.upto fnExactLoadOfSpec)

end Rows
end Go.Proofs.Ytbgogcobkiaejaa
