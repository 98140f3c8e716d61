/-
  No cell of these rows narrows 'for every input' (looked for: loops, veiled, ifaces, maps, wideKeys, modest, calm, conditions, laid).
  DERIVED. THE GIVEN ROWS OF THIS SEAT. 6 by the template 'for every input the law returns true; each argument reads behind the call as it read before'; 0 by the template 'total and deterministic' (their statements: YtjpalndcfaeihaaTotals.lean).
  GIVEN WITH THE SEED: the statements are not yours to turn. If you find one false, say at which input.
  Laid BY PROGRAM, IN A SANDBOX (cutbox-rows.mjs): the forced cells as the released guide's own fill.sh prints them over the translation 15550d8cf4167d7d… (all of the seat's roots in one cut). By AI agents, Wed Nov 11 2026. No macro, syntax, notation, axiom, sorry.
-/
import Derived.Test.YtjpalndcfaeihaaChecked
import GoSem.Claim
import GoSem.ClaimJoined
import GoSem.ClaimMapViews
import Derived.JoinedTies
import Derived.KernelRfl
namespace Go.Proofs.Ytjpalndcfaeihaa
/- THE CELL 'sum', in the pinned program and in every row, IS THE sha256 OF THE DUMP (.gsa) THAT YtjpalndcfaeihaaProg.lean LOADS. Nothing in Lean hashes anything: it is a label: what it is worth is what the hold of that sum in a sandbox is worth. -/
noncomputable def Try.pinned : Pinned := { name := "ytjpalndcfaeihaa", sum := "15550d8cf4167d7d918c8c6a3b274a40a322b0c0f508e0aee4ecb5b503b31a38", checked := Try.checked }
namespace Rows
def none {H : Type} : Left H := { results := [], args := [] }

/-- 'laws.FnProofs': WHATEVER THE INPUT: true; the input reads as it did. -/
def fnProofsSpec : ChangeSpec := { name := "fnProofs", fn := fun _ => fun
  | [d] => { results := [.lit (.bool true)], args := [d] }
  | _ => none }
def fnProofsRow : OpenClaim := { program := "ytjpalndcfaeihaa", sum := "15550d8cf4167d7d918c8c6a3b274a40a322b0c0f508e0aee4ecb5b503b31a38", func := "loop.example/g03306/laws.FnProofs", spec := "fnProofs", unfollowed := true, recurses := true, plainKeys := false, apart := false }
def FnProofsSaid : Prop := fnProofsRow.holds Try.pinned (OpenSpec.ofChange fnProofsSpec)

/-- ITS FALSE NEIGHBOUR: 'it returns false'. Refute it at one input. -/
def fnProofsWrong : ChangeSpec := { name := "fnProofs", fn := fun _ => fun
  | [d] => { results := [.lit (.bool false)], args := [d] }
  | _ => none }
def FnProofsWrongFalsely : Prop := fnProofsRow.holds Try.pinned (OpenSpec.ofChange fnProofsWrong)

/-- 'laws.FnExactHandsFor': WHATEVER THE INPUT: true; the input reads as it did. -/
def fnExactHandsForSpec : ChangeSpec := { name := "fnExactHandsFor", fn := fun _ => fun
  | [d1, d2] => { results := [.lit (.bool true)], args := [d1, d2] }
  | _ => none }
def fnExactHandsForRow : OpenClaim := { program := "ytjpalndcfaeihaa", sum := "15550d8cf4167d7d918c8c6a3b274a40a322b0c0f508e0aee4ecb5b503b31a38", func := "loop.example/g03306/laws.FnExactHandsFor", spec := "fnExactHandsFor", unfollowed := true, recurses := true, plainKeys := false, apart := false }
def FnExactHandsForSaid : Prop := fnExactHandsForRow.holds Try.pinned (OpenSpec.ofChange fnExactHandsForSpec)

/-- ITS FALSE NEIGHBOUR: 'it returns false'. Refute it at one input. -/
def fnExactHandsForWrong : ChangeSpec := { name := "fnExactHandsFor", fn := fun _ => fun
  | [d1, d2] => { results := [.lit (.bool false)], args := [d1, d2] }
  | _ => none }
def FnExactHandsForWrongFalsely : Prop := fnExactHandsForRow.holds Try.pinned (OpenSpec.ofChange fnExactHandsForWrong)

/-- 'laws.FnExactIsShort': WHATEVER THE INPUT: true; the input reads as it did. -/
def fnExactIsShortSpec : ChangeSpec := { name := "fnExactIsShort", fn := fun _ => fun
  | [d1, d2] => { results := [.lit (.bool true)], args := [d1, d2] }
  | _ => none }
def fnExactIsShortRow : OpenClaim := { program := "ytjpalndcfaeihaa", sum := "15550d8cf4167d7d918c8c6a3b274a40a322b0c0f508e0aee4ecb5b503b31a38", func := "loop.example/g03306/laws.FnExactIsShort", spec := "fnExactIsShort", unfollowed := true, recurses := true, plainKeys := false, apart := false }
def FnExactIsShortSaid : Prop := fnExactIsShortRow.holds Try.pinned (OpenSpec.ofChange fnExactIsShortSpec)

/-- ITS FALSE NEIGHBOUR: 'it returns false'. Refute it at one input. -/
def fnExactIsShortWrong : ChangeSpec := { name := "fnExactIsShort", fn := fun _ => fun
  | [d1, d2] => { results := [.lit (.bool false)], args := [d1, d2] }
  | _ => none }
def FnExactIsShortWrongFalsely : Prop := fnExactIsShortRow.holds Try.pinned (OpenSpec.ofChange fnExactIsShortWrong)

/-- 'laws.FnExactShortSet': WHATEVER THE INPUT: true; the input reads as it did. -/
def fnExactShortSetSpec : ChangeSpec := { name := "fnExactShortSet", fn := fun _ => fun
  | [d1, d2] => { results := [.lit (.bool true)], args := [d1, d2] }
  | _ => none }
def fnExactShortSetRow : OpenClaim := { program := "ytjpalndcfaeihaa", sum := "15550d8cf4167d7d918c8c6a3b274a40a322b0c0f508e0aee4ecb5b503b31a38", func := "loop.example/g03306/laws.FnExactShortSet", spec := "fnExactShortSet", unfollowed := true, recurses := true, plainKeys := false, apart := false }
def FnExactShortSetSaid : Prop := fnExactShortSetRow.holds Try.pinned (OpenSpec.ofChange fnExactShortSetSpec)

/-- ITS FALSE NEIGHBOUR: 'it returns false'. Refute it at one input. -/
def fnExactShortSetWrong : ChangeSpec := { name := "fnExactShortSet", fn := fun _ => fun
  | [d1, d2] => { results := [.lit (.bool false)], args := [d1, d2] }
  | _ => none }
def FnExactShortSetWrongFalsely : Prop := fnExactShortSetRow.holds Try.pinned (OpenSpec.ofChange fnExactShortSetWrong)

/-- 'laws.FnExactMostCast': WHATEVER THE INPUT: true; the input reads as it did. -/
def fnExactMostCastSpec : ChangeSpec := { name := "fnExactMostCast", fn := fun _ => fun
  | [d1, d2] => { results := [.lit (.bool true)], args := [d1, d2] }
  | _ => none }
def fnExactMostCastRow : OpenClaim := { program := "ytjpalndcfaeihaa", sum := "15550d8cf4167d7d918c8c6a3b274a40a322b0c0f508e0aee4ecb5b503b31a38", func := "loop.example/g03306/laws.FnExactMostCast", spec := "fnExactMostCast", unfollowed := true, recurses := true, plainKeys := false, apart := false }
def FnExactMostCastSaid : Prop := fnExactMostCastRow.holds Try.pinned (OpenSpec.ofChange fnExactMostCastSpec)

/-- ITS FALSE NEIGHBOUR: 'it returns false'. Refute it at one input. -/
def fnExactMostCastWrong : ChangeSpec := { name := "fnExactMostCast", fn := fun _ => fun
  | [d1, d2] => { results := [.lit (.bool false)], args := [d1, d2] }
  | _ => none }
def FnExactMostCastWrongFalsely : Prop := fnExactMostCastRow.holds Try.pinned (OpenSpec.ofChange fnExactMostCastWrong)

/-- 'laws.FnExactLackOf': WHATEVER THE INPUT: true; the input reads as it did. -/
def fnExactLackOfSpec : ChangeSpec := { name := "fnExactLackOf", fn := fun _ => fun
  | [d1, d2] => { results := [.lit (.bool true)], args := [d1, d2] }
  | _ => none }
def fnExactLackOfRow : OpenClaim := { program := "ytjpalndcfaeihaa", sum := "15550d8cf4167d7d918c8c6a3b274a40a322b0c0f508e0aee4ecb5b503b31a38", func := "loop.example/g03306/laws.FnExactLackOf", spec := "fnExactLackOf", unfollowed := true, recurses := true, plainKeys := false, apart := false }
def FnExactLackOfSaid : Prop := fnExactLackOfRow.holds Try.pinned (OpenSpec.ofChange fnExactLackOfSpec)

/-- ITS FALSE NEIGHBOUR: 'it returns false'. Refute it at one input. -/
def fnExactLackOfWrong : ChangeSpec := { name := "fnExactLackOf", fn := fun _ => fun
  | [d1, d2] => { results := [.lit (.bool false)], args := [d1, d2] }
  | _ => none }
def FnExactLackOfWrongFalsely : Prop := fnExactLackOfRow.holds Try.pinned (OpenSpec.ofChange fnExactLackOfWrong)

/- THE SECOND FORM. 'bulk': how many values and letters a reading holds, each counted each time it is reached (what is shared counts as often as it is met; a slice's spare places count too). A statement '..UptoSaid' is the law's where the arguments, and the package variables that the reading takes, are together of bulk at most 1048576: NARROWER than '..Said'. Prove '..Said' where nothing that the law and all that it calls make is longer than what came in: it says more and counts as full. Else prove '..UptoSaid'. A law counts once. -/
mutual
def uptoBulk {H : Type} : DataW H → Nat
  | .lit (.string bytes) => bytes.length + 1
  | .lit _ => 1
  | .nil => 1
  | .ptr d => uptoBulk d + 1
  | .slice elems spare => uptoBulkAll elems + uptoBulkAll spare + 1
  | .agg parts => uptoBulkAll parts + 1
  | .iface _ d => uptoBulk d + 1
  | .map entries => uptoBulkEntries entries + 1
  | .held _ => 1
def uptoBulkAll {H : Type} : List (DataW H) → Nat
  | [] => 0
  | d :: r => uptoBulk d + uptoBulkAll r
def uptoBulkEntries {H : Type} : List (Lit × DataW H) → Nat
  | [] => 0
  | x :: r => uptoBulkEntry x + uptoBulkEntries r
def uptoBulkEntry {H : Type} : Lit × DataW H → Nat
  | (.string bytes, d) => bytes.length + uptoBulk d + 1
  | (_, d) => uptoBulk d + 1
 end
def uptoSmall : (H : Type) → List (DataW H) → Bool := fun _ ds => decide (uptoBulkAll ds ≤ 1048576)
def OpenSpec.upto (s : _root_.Go.ChangeSpec) : _root_.Go.OpenSpec := { _root_.Go.OpenSpec.ofChange s with cond := some uptoSmall }

/-- 'laws.FnProofs', WHERE WHAT IT READS IS OF BULK AT MOST 1048576: true; the input reads as it did. -/
def fnProofsUptoRow : OpenClaim := { program := "ytjpalndcfaeihaa", sum := "15550d8cf4167d7d918c8c6a3b274a40a322b0c0f508e0aee4ecb5b503b31a38", func := "loop.example/g03306/laws.FnProofs", spec := "fnProofs", unfollowed := true, recurses := true, plainKeys := false, apart := false, narrowed := true }
def FnProofsUptoSaid : Prop := fnProofsUptoRow.holds Try.pinned (OpenSpec.upto fnProofsSpec)

/-- 'laws.FnExactHandsFor', WHERE WHAT IT READS IS OF BULK AT MOST 1048576: true; the input reads as it did. -/
def fnExactHandsForUptoRow : OpenClaim := { program := "ytjpalndcfaeihaa", sum := "15550d8cf4167d7d918c8c6a3b274a40a322b0c0f508e0aee4ecb5b503b31a38", func := "loop.example/g03306/laws.FnExactHandsFor", spec := "fnExactHandsFor", unfollowed := true, recurses := true, plainKeys := false, apart := false, narrowed := true }
def FnExactHandsForUptoSaid : Prop := fnExactHandsForUptoRow.holds Try.pinned (OpenSpec.upto fnExactHandsForSpec)

/-- 'laws.FnExactIsShort', WHERE WHAT IT READS IS OF BULK AT MOST 1048576: true; the input reads as it did. -/
def fnExactIsShortUptoRow : OpenClaim := { program := "ytjpalndcfaeihaa", sum := "15550d8cf4167d7d918c8c6a3b274a40a322b0c0f508e0aee4ecb5b503b31a38", func := "loop.example/g03306/laws.FnExactIsShort", spec := "fnExactIsShort", unfollowed := true, recurses := true, plainKeys := false, apart := false, narrowed := true }
def FnExactIsShortUptoSaid : Prop := fnExactIsShortUptoRow.holds Try.pinned (OpenSpec.upto fnExactIsShortSpec)

/-- 'laws.FnExactShortSet', WHERE WHAT IT READS IS OF BULK AT MOST 1048576: true; the input reads as it did. -/
def fnExactShortSetUptoRow : OpenClaim := { program := "ytjpalndcfaeihaa", sum := "15550d8cf4167d7d918c8c6a3b274a40a322b0c0f508e0aee4ecb5b503b31a38", func := "loop.example/g03306/laws.FnExactShortSet", spec := "fnExactShortSet", unfollowed := true, recurses := true, plainKeys := false, apart := false, narrowed := true }
def FnExactShortSetUptoSaid : Prop := fnExactShortSetUptoRow.holds Try.pinned (OpenSpec.upto fnExactShortSetSpec)

/-- 'laws.FnExactMostCast', WHERE WHAT IT READS IS OF BULK AT MOST 1048576: true; the input reads as it did. -/
def fnExactMostCastUptoRow : OpenClaim := { program := "ytjpalndcfaeihaa", sum := "15550d8cf4167d7d918c8c6a3b274a40a322b0c0f508e0aee4ecb5b503b31a38", func := "loop.example/g03306/laws.FnExactMostCast", spec := "fnExactMostCast", unfollowed := true, recurses := true, plainKeys := false, apart := false, narrowed := true }
def FnExactMostCastUptoSaid : Prop := fnExactMostCastUptoRow.holds Try.pinned (OpenSpec.upto fnExactMostCastSpec)

/-- 'laws.FnExactLackOf', WHERE WHAT IT READS IS OF BULK AT MOST 1048576: true; the input reads as it did. -/
def fnExactLackOfUptoRow : OpenClaim := { program := "ytjpalndcfaeihaa", sum := "15550d8cf4167d7d918c8c6a3b274a40a322b0c0f508e0aee4ecb5b503b31a38", func := "loop.example/g03306/laws.FnExactLackOf", spec := "fnExactLackOf", unfollowed := true, recurses := true, plainKeys := false, apart := false, narrowed := true }
def FnExactLackOfUptoSaid : Prop := fnExactLackOfUptoRow.holds Try.pinned (OpenSpec.upto fnExactLackOfSpec)

end Rows
end Go.Proofs.Ytjpalndcfaeihaa
