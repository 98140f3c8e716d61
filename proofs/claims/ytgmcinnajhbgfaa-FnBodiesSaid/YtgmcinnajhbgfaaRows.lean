/-
  No cell of these rows narrows 'for every input' (looked for: loops, veiled, ifaces, maps, wideKeys, modest, calm, conditions, laid).
  DERIVED. THE GIVEN ROWS OF THIS SEAT. 7 by the template 'for every input the law returns true; each argument reads behind the call as it read before'; 0 by the template 'total and deterministic' (their statements: YtgmcinnajhbgfaaTotals.lean).
  GIVEN WITH THE SEED: the statements are not yours to turn. If you find one false, say at which input.
  Laid BY PROGRAM, IN A SANDBOX (cutbox-rows.mjs): the forced cells as the released guide's own fill.sh prints them over the translation aad4edcc3a6fe1c1… (all of the seat's roots in one cut). By AI agents, Wed Nov 11 2026. No macro, syntax, notation, axiom, sorry.
-/
import Derived.Test.YtgmcinnajhbgfaaChecked
import GoSem.Claim
import GoSem.ClaimJoined
import GoSem.ClaimMapViews
import Derived.JoinedTies
import Derived.KernelRfl
namespace Go.Proofs.Ytgmcinnajhbgfaa
/- THE CELL 'sum', in the pinned program and in every row, IS THE sha256 OF THE DUMP (.gsa) THAT YtgmcinnajhbgfaaProg.lean LOADS. Nothing in Lean hashes anything: it is a label: what it is worth is what the hold of that sum in a sandbox is worth. -/
noncomputable def Try.pinned : Pinned := { name := "ytgmcinnajhbgfaa", sum := "aad4edcc3a6fe1c11fecba961221cb1653d62c70b12173c0f9fa8155471419ce", checked := Try.checked }
namespace Rows
def none {H : Type} : Left H := { results := [], args := [] }

/-- 'laws.FnBodies': WHATEVER THE INPUT: true; the input reads as it did. -/
def fnBodiesSpec : ChangeSpec := { name := "fnBodies", fn := fun _ => fun
  | [d] => { results := [.lit (.bool true)], args := [d] }
  | _ => none }
def fnBodiesRow : OpenClaim := { program := "ytgmcinnajhbgfaa", sum := "aad4edcc3a6fe1c11fecba961221cb1653d62c70b12173c0f9fa8155471419ce", func := "loop.example/g03306/laws.FnBodies", spec := "fnBodies", recurses := true, apart := false }
def FnBodiesSaid : Prop := fnBodiesRow.holds Try.pinned (OpenSpec.ofChange fnBodiesSpec)

/-- ITS FALSE NEIGHBOUR: 'it returns false'. Refute it at one input. -/
def fnBodiesWrong : ChangeSpec := { name := "fnBodies", fn := fun _ => fun
  | [d] => { results := [.lit (.bool false)], args := [d] }
  | _ => none }
def FnBodiesWrongFalsely : Prop := fnBodiesRow.holds Try.pinned (OpenSpec.ofChange fnBodiesWrong)

/-- 'laws.FnExactBodyOk': WHATEVER THE INPUT: true; the input reads as it did. -/
def fnExactBodyOkSpec : ChangeSpec := { name := "fnExactBodyOk", fn := fun _ => fun
  | [d] => { results := [.lit (.bool true)], args := [d] }
  | _ => none }
def fnExactBodyOkRow : OpenClaim := { program := "ytgmcinnajhbgfaa", sum := "aad4edcc3a6fe1c11fecba961221cb1653d62c70b12173c0f9fa8155471419ce", func := "loop.example/g03306/laws.FnExactBodyOk", spec := "fnExactBodyOk", recurses := true, apart := false }
def FnExactBodyOkSaid : Prop := fnExactBodyOkRow.holds Try.pinned (OpenSpec.ofChange fnExactBodyOkSpec)

/-- ITS FALSE NEIGHBOUR: 'it returns false'. Refute it at one input. -/
def fnExactBodyOkWrong : ChangeSpec := { name := "fnExactBodyOk", fn := fun _ => fun
  | [d] => { results := [.lit (.bool false)], args := [d] }
  | _ => none }
def FnExactBodyOkWrongFalsely : Prop := fnExactBodyOkRow.holds Try.pinned (OpenSpec.ofChange fnExactBodyOkWrong)

/-- 'laws.FnExactLimbsAt': WHATEVER THE INPUT: true; the input reads as it did. -/
def fnExactLimbsAtSpec : ChangeSpec := { name := "fnExactLimbsAt", fn := fun _ => fun
  | [d1, d2] => { results := [.lit (.bool true)], args := [d1, d2] }
  | _ => none }
def fnExactLimbsAtRow : OpenClaim := { program := "ytgmcinnajhbgfaa", sum := "aad4edcc3a6fe1c11fecba961221cb1653d62c70b12173c0f9fa8155471419ce", func := "loop.example/g03306/laws.FnExactLimbsAt", spec := "fnExactLimbsAt", recurses := true, apart := false }
def FnExactLimbsAtSaid : Prop := fnExactLimbsAtRow.holds Try.pinned (OpenSpec.ofChange fnExactLimbsAtSpec)

/-- ITS FALSE NEIGHBOUR: 'it returns false'. Refute it at one input. -/
def fnExactLimbsAtWrong : ChangeSpec := { name := "fnExactLimbsAt", fn := fun _ => fun
  | [d1, d2] => { results := [.lit (.bool false)], args := [d1, d2] }
  | _ => none }
def FnExactLimbsAtWrongFalsely : Prop := fnExactLimbsAtRow.holds Try.pinned (OpenSpec.ofChange fnExactLimbsAtWrong)

/-- 'laws.FnExactEndsOf': WHATEVER THE INPUT: true; the input reads as it did. -/
def fnExactEndsOfSpec : ChangeSpec := { name := "fnExactEndsOf", fn := fun _ => fun
  | [d] => { results := [.lit (.bool true)], args := [d] }
  | _ => none }
def fnExactEndsOfRow : OpenClaim := { program := "ytgmcinnajhbgfaa", sum := "aad4edcc3a6fe1c11fecba961221cb1653d62c70b12173c0f9fa8155471419ce", func := "loop.example/g03306/laws.FnExactEndsOf", spec := "fnExactEndsOf", recurses := true, apart := false }
def FnExactEndsOfSaid : Prop := fnExactEndsOfRow.holds Try.pinned (OpenSpec.ofChange fnExactEndsOfSpec)

/-- ITS FALSE NEIGHBOUR: 'it returns false'. Refute it at one input. -/
def fnExactEndsOfWrong : ChangeSpec := { name := "fnExactEndsOf", fn := fun _ => fun
  | [d] => { results := [.lit (.bool false)], args := [d] }
  | _ => none }
def FnExactEndsOfWrongFalsely : Prop := fnExactEndsOfRow.holds Try.pinned (OpenSpec.ofChange fnExactEndsOfWrong)

/-- 'laws.FnExactLengthOf': WHATEVER THE INPUT: true; the input reads as it did. -/
def fnExactLengthOfSpec : ChangeSpec := { name := "fnExactLengthOf", fn := fun _ => fun
  | [d] => { results := [.lit (.bool true)], args := [d] }
  | _ => none }
def fnExactLengthOfRow : OpenClaim := { program := "ytgmcinnajhbgfaa", sum := "aad4edcc3a6fe1c11fecba961221cb1653d62c70b12173c0f9fa8155471419ce", func := "loop.example/g03306/laws.FnExactLengthOf", spec := "fnExactLengthOf", recurses := true, apart := false }
def FnExactLengthOfSaid : Prop := fnExactLengthOfRow.holds Try.pinned (OpenSpec.ofChange fnExactLengthOfSpec)

/-- ITS FALSE NEIGHBOUR: 'it returns false'. Refute it at one input. -/
def fnExactLengthOfWrong : ChangeSpec := { name := "fnExactLengthOf", fn := fun _ => fun
  | [d] => { results := [.lit (.bool false)], args := [d] }
  | _ => none }
def FnExactLengthOfWrongFalsely : Prop := fnExactLengthOfRow.holds Try.pinned (OpenSpec.ofChange fnExactLengthOfWrong)

/-- 'laws.FnExactAddLimb': WHATEVER THE INPUT: true; the input reads as it did. -/
def fnExactAddLimbSpec : ChangeSpec := { name := "fnExactAddLimb", fn := fun _ => fun
  | [d1, d2, d3] => { results := [.lit (.bool true)], args := [d1, d2, d3] }
  | _ => none }
def fnExactAddLimbRow : OpenClaim := { program := "ytgmcinnajhbgfaa", sum := "aad4edcc3a6fe1c11fecba961221cb1653d62c70b12173c0f9fa8155471419ce", func := "loop.example/g03306/laws.FnExactAddLimb", spec := "fnExactAddLimb", recurses := true, apart := false }
def FnExactAddLimbSaid : Prop := fnExactAddLimbRow.holds Try.pinned (OpenSpec.ofChange fnExactAddLimbSpec)

/-- ITS FALSE NEIGHBOUR: 'it returns false'. Refute it at one input. -/
def fnExactAddLimbWrong : ChangeSpec := { name := "fnExactAddLimb", fn := fun _ => fun
  | [d1, d2, d3] => { results := [.lit (.bool false)], args := [d1, d2, d3] }
  | _ => none }
def FnExactAddLimbWrongFalsely : Prop := fnExactAddLimbRow.holds Try.pinned (OpenSpec.ofChange fnExactAddLimbWrong)

/-- 'laws.FnExactSampleBody': WHATEVER THE INPUT: true; the input reads as it did. -/
def fnExactSampleBodySpec : ChangeSpec := { name := "fnExactSampleBody", fn := fun _ => fun
  | [] => { results := [.lit (.bool true)], args := [] }
  | _ => none }
def fnExactSampleBodyRow : OpenClaim := { program := "ytgmcinnajhbgfaa", sum := "aad4edcc3a6fe1c11fecba961221cb1653d62c70b12173c0f9fa8155471419ce", func := "loop.example/g03306/laws.FnExactSampleBody", spec := "fnExactSampleBody", apart := false }
def FnExactSampleBodySaid : Prop := fnExactSampleBodyRow.holds Try.pinned (OpenSpec.ofChange fnExactSampleBodySpec)

/-- ITS FALSE NEIGHBOUR: 'it returns false'. Refute it at one input. -/
def fnExactSampleBodyWrong : ChangeSpec := { name := "fnExactSampleBody", fn := fun _ => fun
  | [] => { results := [.lit (.bool false)], args := [] }
  | _ => none }
def FnExactSampleBodyWrongFalsely : Prop := fnExactSampleBodyRow.holds Try.pinned (OpenSpec.ofChange fnExactSampleBodyWrong)

/- THE SECOND FORM. 'bulk': how many values and letters a reading holds, each counted each time it is reached (what is shared counts as often as it is met; a slice's spare places count too). A statement '..UptoSaid' is the law's where the arguments, and the package variables that the reading takes, are together of bulk at most 1048576: NARROWER than '..Said'. Prove '..Said' where nothing that the law and all that it calls make is longer than what came in: it says more and counts as full. Else prove '..UptoSaid'. A law counts once. -/
mutual
def uptoBulk {H : Type} : DataW H → Nat
  | .lit (.string bytes) => bytes.length + 1
  | .lit _ => 1
  | .nil => 1
  | .ptr d => uptoBulk d + 1
  | .slice elems spare => uptoBulkAll elems + uptoBulkAll spare + 1
  | .agg parts => uptoBulkAll parts + 1
  | .iface _ d => uptoBulk d + 1
  | .map entries => uptoBulkEntries entries + 1
  | .held _ => 1
def uptoBulkAll {H : Type} : List (DataW H) → Nat
  | [] => 0
  | d :: r => uptoBulk d + uptoBulkAll r
def uptoBulkEntries {H : Type} : List (Lit × DataW H) → Nat
  | [] => 0
  | x :: r => uptoBulkEntry x + uptoBulkEntries r
def uptoBulkEntry {H : Type} : Lit × DataW H → Nat
  | (.string bytes, d) => bytes.length + uptoBulk d + 1
  | (_, d) => uptoBulk d + 1
 end
def uptoSmall : (H : Type) → List (DataW H) → Bool := fun _ ds => decide (uptoBulkAll ds ≤ 1048576)
def OpenSpec.upto (s : _root_.Go.ChangeSpec) : _root_.Go.OpenSpec := { _root_.Go.OpenSpec.ofChange s with cond := some uptoSmall }

/-- 'laws.FnBodies', WHERE WHAT IT READS IS OF BULK AT MOST 1048576: true; the input reads as it did. -/
def fnBodiesUptoRow : OpenClaim := { program := "ytgmcinnajhbgfaa", sum := "aad4edcc3a6fe1c11fecba961221cb1653d62c70b12173c0f9fa8155471419ce", func := "loop.example/g03306/laws.FnBodies", spec := "fnBodies", recurses := true, apart := false, narrowed := true }
def FnBodiesUptoSaid : Prop := fnBodiesUptoRow.holds Try.pinned (OpenSpec.upto fnBodiesSpec)

/-- 'laws.FnExactBodyOk', WHERE WHAT IT READS IS OF BULK AT MOST 1048576: true; the input reads as it did. -/
def fnExactBodyOkUptoRow : OpenClaim := { program := "ytgmcinnajhbgfaa", sum := "aad4edcc3a6fe1c11fecba961221cb1653d62c70b12173c0f9fa8155471419ce", func := "loop.example/g03306/laws.FnExactBodyOk", spec := "fnExactBodyOk", recurses := true, apart := false, narrowed := true }
def FnExactBodyOkUptoSaid : Prop := fnExactBodyOkUptoRow.holds Try.pinned (OpenSpec.upto fnExactBodyOkSpec)

/-- 'laws.FnExactLimbsAt', WHERE WHAT IT READS IS OF BULK AT MOST 1048576: true; the input reads as it did. -/
def fnExactLimbsAtUptoRow : OpenClaim := { program := "ytgmcinnajhbgfaa", sum := "aad4edcc3a6fe1c11fecba961221cb1653d62c70b12173c0f9fa8155471419ce", func := "loop.example/g03306/laws.FnExactLimbsAt", spec := "fnExactLimbsAt", recurses := true, apart := false, narrowed := true }
def FnExactLimbsAtUptoSaid : Prop := fnExactLimbsAtUptoRow.holds Try.pinned (OpenSpec.upto fnExactLimbsAtSpec)

/-- 'laws.FnExactEndsOf', WHERE WHAT IT READS IS OF BULK AT MOST 1048576: true; the input reads as it did. -/
def fnExactEndsOfUptoRow : OpenClaim := { program := "ytgmcinnajhbgfaa", sum := "aad4edcc3a6fe1c11fecba961221cb1653d62c70b12173c0f9fa8155471419ce", func := "loop.example/g03306/laws.FnExactEndsOf", spec := "fnExactEndsOf", recurses := true, apart := false, narrowed := true }
def FnExactEndsOfUptoSaid : Prop := fnExactEndsOfUptoRow.holds Try.pinned (OpenSpec.upto fnExactEndsOfSpec)

/-- 'laws.FnExactLengthOf', WHERE WHAT IT READS IS OF BULK AT MOST 1048576: true; the input reads as it did. -/
def fnExactLengthOfUptoRow : OpenClaim := { program := "ytgmcinnajhbgfaa", sum := "aad4edcc3a6fe1c11fecba961221cb1653d62c70b12173c0f9fa8155471419ce", func := "loop.example/g03306/laws.FnExactLengthOf", spec := "fnExactLengthOf", recurses := true, apart := false, narrowed := true }
def FnExactLengthOfUptoSaid : Prop := fnExactLengthOfUptoRow.holds Try.pinned (OpenSpec.upto fnExactLengthOfSpec)

/-- 'laws.FnExactAddLimb', WHERE WHAT IT READS IS OF BULK AT MOST 1048576: true; the input reads as it did. -/
def fnExactAddLimbUptoRow : OpenClaim := { program := "ytgmcinnajhbgfaa", sum := "aad4edcc3a6fe1c11fecba961221cb1653d62c70b12173c0f9fa8155471419ce", func := "loop.example/g03306/laws.FnExactAddLimb", spec := "fnExactAddLimb", recurses := true, apart := false, narrowed := true }
def FnExactAddLimbUptoSaid : Prop := fnExactAddLimbUptoRow.holds Try.pinned (OpenSpec.upto fnExactAddLimbSpec)

/-- 'laws.FnExactSampleBody', WHERE WHAT IT READS IS OF BULK AT MOST 1048576: true; the input reads as it did. -/
def fnExactSampleBodyUptoRow : OpenClaim := { program := "ytgmcinnajhbgfaa", sum := "aad4edcc3a6fe1c11fecba961221cb1653d62c70b12173c0f9fa8155471419ce", func := "loop.example/g03306/laws.FnExactSampleBody", spec := "fnExactSampleBody", apart := false, narrowed := true }
def FnExactSampleBodyUptoSaid : Prop := fnExactSampleBodyUptoRow.holds Try.pinned (OpenSpec.upto fnExactSampleBodySpec)

end Rows
end Go.Proofs.Ytgmcinnajhbgfaa
