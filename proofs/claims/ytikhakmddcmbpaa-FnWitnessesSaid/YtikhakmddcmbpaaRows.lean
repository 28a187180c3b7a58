/-
  No cell of these rows narrows 'for every input' (looked for: loops, veiled, ifaces, maps, wideKeys, modest, calm, conditions, laid).
  DERIVED. THE GIVEN ROWS OF THIS SEAT. 18 by the template 'for every input the law returns true; each argument reads behind the call as it read before'; 0 by the template 'total and deterministic' (their statements: YtikhakmddcmbpaaTotals.lean).
  GIVEN WITH THE SEED: the statements are not yours to turn. If you find one false, say at which input.
  Laid BY PROGRAM, IN A SANDBOX (cutbox-rows.mjs): the forced cells as the released guide's own fill.sh prints them over the translation 3b6425bc53fed7e9… (all of the seat's roots in one cut). By AI agents, Wed Nov 11 2026. No macro, syntax, notation, axiom, sorry.
-/
import Derived.Test.YtikhakmddcmbpaaChecked
import GoSem.Claim
import GoSem.ClaimJoined
import GoSem.ClaimMapViews
import Derived.JoinedTies
import Derived.KernelRfl
namespace Go.Proofs.Ytikhakmddcmbpaa
/- THE CELL 'sum', in the pinned program and in every row, IS THE sha256 OF THE DUMP (.gsa) THAT YtikhakmddcmbpaaProg.lean LOADS. Nothing in Lean hashes anything: it is a label: what it is worth is what the hold of that sum in a sandbox is worth. -/
noncomputable def Try.pinned : Pinned := { name := "ytikhakmddcmbpaa", sum := "3b6425bc53fed7e91f43aa9ac3ae12cce8567fdb5d4b123243df5d9a606d3a88", checked := Try.checked }
namespace Rows
def none {H : Type} : Left H := { results := [], args := [] }

/-- 'laws.FnReports': WHATEVER THE INPUT: true; the input reads as it did. -/
def fnReportsSpec : ChangeSpec := { name := "fnReports", fn := fun _ => fun
  | [d] => { results := [.lit (.bool true)], args := [d] }
  | _ => none }
def fnReportsRow : OpenClaim := { program := "ytikhakmddcmbpaa", sum := "3b6425bc53fed7e91f43aa9ac3ae12cce8567fdb5d4b123243df5d9a606d3a88", func := "loop.example/g00567/laws.FnReports", spec := "fnReports", unfollowed := true, recurses := true, apart := false }
def FnReportsSaid : Prop := fnReportsRow.holds Try.pinned (OpenSpec.ofChange fnReportsSpec)

/-- ITS FALSE NEIGHBOUR: 'it returns false'. Refute it at one input. -/
def fnReportsWrong : ChangeSpec := { name := "fnReports", fn := fun _ => fun
  | [d] => { results := [.lit (.bool false)], args := [d] }
  | _ => none }
def FnReportsWrongFalsely : Prop := fnReportsRow.holds Try.pinned (OpenSpec.ofChange fnReportsWrong)

/-- 'laws.FnWitnesses': WHATEVER THE INPUT: true; the input reads as it did. -/
def fnWitnessesSpec : ChangeSpec := { name := "fnWitnesses", fn := fun _ => fun
  | [d] => { results := [.lit (.bool true)], args := [d] }
  | _ => none }
def fnWitnessesRow : OpenClaim := { program := "ytikhakmddcmbpaa", sum := "3b6425bc53fed7e91f43aa9ac3ae12cce8567fdb5d4b123243df5d9a606d3a88", func := "loop.example/g00567/laws.FnWitnesses", spec := "fnWitnesses", unfollowed := true, recurses := true, apart := false }
def FnWitnessesSaid : Prop := fnWitnessesRow.holds Try.pinned (OpenSpec.ofChange fnWitnessesSpec)

/-- ITS FALSE NEIGHBOUR: 'it returns false'. Refute it at one input. -/
def fnWitnessesWrong : ChangeSpec := { name := "fnWitnesses", fn := fun _ => fun
  | [d] => { results := [.lit (.bool false)], args := [d] }
  | _ => none }
def FnWitnessesWrongFalsely : Prop := fnWitnessesRow.holds Try.pinned (OpenSpec.ofChange fnWitnessesWrong)

/-- 'laws.FnSafes': WHATEVER THE INPUT: true; the input reads as it did. -/
def fnSafesSpec : ChangeSpec := { name := "fnSafes", fn := fun _ => fun
  | [d] => { results := [.lit (.bool true)], args := [d] }
  | _ => none }
def fnSafesRow : OpenClaim := { program := "ytikhakmddcmbpaa", sum := "3b6425bc53fed7e91f43aa9ac3ae12cce8567fdb5d4b123243df5d9a606d3a88", func := "loop.example/g00567/laws.FnSafes", spec := "fnSafes", unfollowed := true, recurses := true, apart := false }
def FnSafesSaid : Prop := fnSafesRow.holds Try.pinned (OpenSpec.ofChange fnSafesSpec)

/-- ITS FALSE NEIGHBOUR: 'it returns false'. Refute it at one input. -/
def fnSafesWrong : ChangeSpec := { name := "fnSafes", fn := fun _ => fun
  | [d] => { results := [.lit (.bool false)], args := [d] }
  | _ => none }
def FnSafesWrongFalsely : Prop := fnSafesRow.holds Try.pinned (OpenSpec.ofChange fnSafesWrong)

/-- 'laws.FnBounds': WHATEVER THE INPUT: true; the input reads as it did. -/
def fnBoundsSpec : ChangeSpec := { name := "fnBounds", fn := fun _ => fun
  | [d] => { results := [.lit (.bool true)], args := [d] }
  | _ => none }
def fnBoundsRow : OpenClaim := { program := "ytikhakmddcmbpaa", sum := "3b6425bc53fed7e91f43aa9ac3ae12cce8567fdb5d4b123243df5d9a606d3a88", func := "loop.example/g00567/laws.FnBounds", spec := "fnBounds", unfollowed := true, recurses := true, apart := false }
def FnBoundsSaid : Prop := fnBoundsRow.holds Try.pinned (OpenSpec.ofChange fnBoundsSpec)

/-- ITS FALSE NEIGHBOUR: 'it returns false'. Refute it at one input. -/
def fnBoundsWrong : ChangeSpec := { name := "fnBounds", fn := fun _ => fun
  | [d] => { results := [.lit (.bool false)], args := [d] }
  | _ => none }
def FnBoundsWrongFalsely : Prop := fnBoundsRow.holds Try.pinned (OpenSpec.ofChange fnBoundsWrong)

/-- 'laws.FnChooses': WHATEVER THE INPUT: true; the input reads as it did. -/
def fnChoosesSpec : ChangeSpec := { name := "fnChooses", fn := fun _ => fun
  | [d] => { results := [.lit (.bool true)], args := [d] }
  | _ => none }
def fnChoosesRow : OpenClaim := { program := "ytikhakmddcmbpaa", sum := "3b6425bc53fed7e91f43aa9ac3ae12cce8567fdb5d4b123243df5d9a606d3a88", func := "loop.example/g00567/laws.FnChooses", spec := "fnChooses", unfollowed := true, recurses := true, apart := false }
def FnChoosesSaid : Prop := fnChoosesRow.holds Try.pinned (OpenSpec.ofChange fnChoosesSpec)

/-- ITS FALSE NEIGHBOUR: 'it returns false'. Refute it at one input. -/
def fnChoosesWrong : ChangeSpec := { name := "fnChooses", fn := fun _ => fun
  | [d] => { results := [.lit (.bool false)], args := [d] }
  | _ => none }
def FnChoosesWrongFalsely : Prop := fnChoosesRow.holds Try.pinned (OpenSpec.ofChange fnChoosesWrong)

/-- 'laws.FnSupports': WHATEVER THE INPUT: true; the input reads as it did. -/
def fnSupportsSpec : ChangeSpec := { name := "fnSupports", fn := fun _ => fun
  | [d] => { results := [.lit (.bool true)], args := [d] }
  | _ => none }
def fnSupportsRow : OpenClaim := { program := "ytikhakmddcmbpaa", sum := "3b6425bc53fed7e91f43aa9ac3ae12cce8567fdb5d4b123243df5d9a606d3a88", func := "loop.example/g00567/laws.FnSupports", spec := "fnSupports", unfollowed := true, recurses := true, apart := false }
def FnSupportsSaid : Prop := fnSupportsRow.holds Try.pinned (OpenSpec.ofChange fnSupportsSpec)

/-- ITS FALSE NEIGHBOUR: 'it returns false'. Refute it at one input. -/
def fnSupportsWrong : ChangeSpec := { name := "fnSupports", fn := fun _ => fun
  | [d] => { results := [.lit (.bool false)], args := [d] }
  | _ => none }
def FnSupportsWrongFalsely : Prop := fnSupportsRow.holds Try.pinned (OpenSpec.ofChange fnSupportsWrong)

/-- 'laws.FnSafeVals': WHATEVER THE INPUT: true; the input reads as it did. -/
def fnSafeValsSpec : ChangeSpec := { name := "fnSafeVals", fn := fun _ => fun
  | [d] => { results := [.lit (.bool true)], args := [d] }
  | _ => none }
def fnSafeValsRow : OpenClaim := { program := "ytikhakmddcmbpaa", sum := "3b6425bc53fed7e91f43aa9ac3ae12cce8567fdb5d4b123243df5d9a606d3a88", func := "loop.example/g00567/laws.FnSafeVals", spec := "fnSafeVals", unfollowed := true, recurses := true, apart := false }
def FnSafeValsSaid : Prop := fnSafeValsRow.holds Try.pinned (OpenSpec.ofChange fnSafeValsSpec)

/-- ITS FALSE NEIGHBOUR: 'it returns false'. Refute it at one input. -/
def fnSafeValsWrong : ChangeSpec := { name := "fnSafeVals", fn := fun _ => fun
  | [d] => { results := [.lit (.bool false)], args := [d] }
  | _ => none }
def FnSafeValsWrongFalsely : Prop := fnSafeValsRow.holds Try.pinned (OpenSpec.ofChange fnSafeValsWrong)

/-- 'laws.FnExactReportsOk': WHATEVER THE INPUT: true; the input reads as it did. -/
def fnExactReportsOkSpec : ChangeSpec := { name := "fnExactReportsOk", fn := fun _ => fun
  | [d1, d2, d3] => { results := [.lit (.bool true)], args := [d1, d2, d3] }
  | _ => none }
def fnExactReportsOkRow : OpenClaim := { program := "ytikhakmddcmbpaa", sum := "3b6425bc53fed7e91f43aa9ac3ae12cce8567fdb5d4b123243df5d9a606d3a88", func := "loop.example/g00567/laws.FnExactReportsOk", spec := "fnExactReportsOk", apart := false }
def FnExactReportsOkSaid : Prop := fnExactReportsOkRow.holds Try.pinned (OpenSpec.ofChange fnExactReportsOkSpec)

/-- ITS FALSE NEIGHBOUR: 'it returns false'. Refute it at one input. -/
def fnExactReportsOkWrong : ChangeSpec := { name := "fnExactReportsOk", fn := fun _ => fun
  | [d1, d2, d3] => { results := [.lit (.bool false)], args := [d1, d2, d3] }
  | _ => none }
def FnExactReportsOkWrongFalsely : Prop := fnExactReportsOkRow.holds Try.pinned (OpenSpec.ofChange fnExactReportsOkWrong)

/-- 'laws.FnExactAddReport': WHATEVER THE INPUT: true; the input reads as it did. -/
def fnExactAddReportSpec : ChangeSpec := { name := "fnExactAddReport", fn := fun _ => fun
  | [d1, d2, d3, d4] => { results := [.lit (.bool true)], args := [d1, d2, d3, d4] }
  | _ => none }
def fnExactAddReportRow : OpenClaim := { program := "ytikhakmddcmbpaa", sum := "3b6425bc53fed7e91f43aa9ac3ae12cce8567fdb5d4b123243df5d9a606d3a88", func := "loop.example/g00567/laws.FnExactAddReport", spec := "fnExactAddReport", apart := false }
def FnExactAddReportSaid : Prop := fnExactAddReportRow.holds Try.pinned (OpenSpec.ofChange fnExactAddReportSpec)

/-- ITS FALSE NEIGHBOUR: 'it returns false'. Refute it at one input. -/
def fnExactAddReportWrong : ChangeSpec := { name := "fnExactAddReport", fn := fun _ => fun
  | [d1, d2, d3, d4] => { results := [.lit (.bool false)], args := [d1, d2, d3, d4] }
  | _ => none }
def FnExactAddReportWrongFalsely : Prop := fnExactAddReportRow.holds Try.pinned (OpenSpec.ofChange fnExactAddReportWrong)

/-- 'laws.FnExactWitnesses': WHATEVER THE INPUT: true; the input reads as it did. -/
def fnExactWitnessesSpec : ChangeSpec := { name := "fnExactWitnesses", fn := fun _ => fun
  | [d1, d2, d3, d4, d5] => { results := [.lit (.bool true)], args := [d1, d2, d3, d4, d5] }
  | _ => none }
def fnExactWitnessesRow : OpenClaim := { program := "ytikhakmddcmbpaa", sum := "3b6425bc53fed7e91f43aa9ac3ae12cce8567fdb5d4b123243df5d9a606d3a88", func := "loop.example/g00567/laws.FnExactWitnesses", spec := "fnExactWitnesses", unfollowed := true, recurses := true, apart := false }
def FnExactWitnessesSaid : Prop := fnExactWitnessesRow.holds Try.pinned (OpenSpec.ofChange fnExactWitnessesSpec)

/-- ITS FALSE NEIGHBOUR: 'it returns false'. Refute it at one input. -/
def fnExactWitnessesWrong : ChangeSpec := { name := "fnExactWitnesses", fn := fun _ => fun
  | [d1, d2, d3, d4, d5] => { results := [.lit (.bool false)], args := [d1, d2, d3, d4, d5] }
  | _ => none }
def FnExactWitnessesWrongFalsely : Prop := fnExactWitnessesRow.holds Try.pinned (OpenSpec.ofChange fnExactWitnessesWrong)

/-- 'laws.FnExactGrounds': WHATEVER THE INPUT: true; the input reads as it did. -/
def fnExactGroundsSpec : ChangeSpec := { name := "fnExactGrounds", fn := fun _ => fun
  | [d1, d2, d3, d4] => { results := [.lit (.bool true)], args := [d1, d2, d3, d4] }
  | _ => none }
def fnExactGroundsRow : OpenClaim := { program := "ytikhakmddcmbpaa", sum := "3b6425bc53fed7e91f43aa9ac3ae12cce8567fdb5d4b123243df5d9a606d3a88", func := "loop.example/g00567/laws.FnExactGrounds", spec := "fnExactGrounds", unfollowed := true, recurses := true, apart := false }
def FnExactGroundsSaid : Prop := fnExactGroundsRow.holds Try.pinned (OpenSpec.ofChange fnExactGroundsSpec)

/-- ITS FALSE NEIGHBOUR: 'it returns false'. Refute it at one input. -/
def fnExactGroundsWrong : ChangeSpec := { name := "fnExactGrounds", fn := fun _ => fun
  | [d1, d2, d3, d4] => { results := [.lit (.bool false)], args := [d1, d2, d3, d4] }
  | _ => none }
def FnExactGroundsWrongFalsely : Prop := fnExactGroundsRow.holds Try.pinned (OpenSpec.ofChange fnExactGroundsWrong)

/-- 'laws.FnExactFree': WHATEVER THE INPUT: true; the input reads as it did. -/
def fnExactFreeSpec : ChangeSpec := { name := "fnExactFree", fn := fun _ => fun
  | [d1, d2, d3] => { results := [.lit (.bool true)], args := [d1, d2, d3] }
  | _ => none }
def fnExactFreeRow : OpenClaim := { program := "ytikhakmddcmbpaa", sum := "3b6425bc53fed7e91f43aa9ac3ae12cce8567fdb5d4b123243df5d9a606d3a88", func := "loop.example/g00567/laws.FnExactFree", spec := "fnExactFree", unfollowed := true, recurses := true, apart := false }
def FnExactFreeSaid : Prop := fnExactFreeRow.holds Try.pinned (OpenSpec.ofChange fnExactFreeSpec)

/-- ITS FALSE NEIGHBOUR: 'it returns false'. Refute it at one input. -/
def fnExactFreeWrong : ChangeSpec := { name := "fnExactFree", fn := fun _ => fun
  | [d1, d2, d3] => { results := [.lit (.bool false)], args := [d1, d2, d3] }
  | _ => none }
def FnExactFreeWrongFalsely : Prop := fnExactFreeRow.holds Try.pinned (OpenSpec.ofChange fnExactFreeWrong)

/-- 'laws.FnExactSafe': WHATEVER THE INPUT: true; the input reads as it did. -/
def fnExactSafeSpec : ChangeSpec := { name := "fnExactSafe", fn := fun _ => fun
  | [d1, d2, d3, d4] => { results := [.lit (.bool true)], args := [d1, d2, d3, d4] }
  | _ => none }
def fnExactSafeRow : OpenClaim := { program := "ytikhakmddcmbpaa", sum := "3b6425bc53fed7e91f43aa9ac3ae12cce8567fdb5d4b123243df5d9a606d3a88", func := "loop.example/g00567/laws.FnExactSafe", spec := "fnExactSafe", unfollowed := true, recurses := true, apart := false }
def FnExactSafeSaid : Prop := fnExactSafeRow.holds Try.pinned (OpenSpec.ofChange fnExactSafeSpec)

/-- ITS FALSE NEIGHBOUR: 'it returns false'. Refute it at one input. -/
def fnExactSafeWrong : ChangeSpec := { name := "fnExactSafe", fn := fun _ => fun
  | [d1, d2, d3, d4] => { results := [.lit (.bool false)], args := [d1, d2, d3, d4] }
  | _ => none }
def FnExactSafeWrongFalsely : Prop := fnExactSafeRow.holds Try.pinned (OpenSpec.ofChange fnExactSafeWrong)

/-- 'laws.FnExactChoose': WHATEVER THE INPUT: true; the input reads as it did. -/
def fnExactChooseSpec : ChangeSpec := { name := "fnExactChoose", fn := fun _ => fun
  | [d1, d2, d3, d4] => { results := [.lit (.bool true)], args := [d1, d2, d3, d4] }
  | _ => none }
def fnExactChooseRow : OpenClaim := { program := "ytikhakmddcmbpaa", sum := "3b6425bc53fed7e91f43aa9ac3ae12cce8567fdb5d4b123243df5d9a606d3a88", func := "loop.example/g00567/laws.FnExactChoose", spec := "fnExactChoose", unfollowed := true, recurses := true, apart := false }
def FnExactChooseSaid : Prop := fnExactChooseRow.holds Try.pinned (OpenSpec.ofChange fnExactChooseSpec)

/-- ITS FALSE NEIGHBOUR: 'it returns false'. Refute it at one input. -/
def fnExactChooseWrong : ChangeSpec := { name := "fnExactChoose", fn := fun _ => fun
  | [d1, d2, d3, d4] => { results := [.lit (.bool false)], args := [d1, d2, d3, d4] }
  | _ => none }
def FnExactChooseWrongFalsely : Prop := fnExactChooseRow.holds Try.pinned (OpenSpec.ofChange fnExactChooseWrong)

/-- 'laws.FnExactUnbound': WHATEVER THE INPUT: true; the input reads as it did. -/
def fnExactUnboundSpec : ChangeSpec := { name := "fnExactUnbound", fn := fun _ => fun
  | [d1, d2, d3] => { results := [.lit (.bool true)], args := [d1, d2, d3] }
  | _ => none }
def fnExactUnboundRow : OpenClaim := { program := "ytikhakmddcmbpaa", sum := "3b6425bc53fed7e91f43aa9ac3ae12cce8567fdb5d4b123243df5d9a606d3a88", func := "loop.example/g00567/laws.FnExactUnbound", spec := "fnExactUnbound", unfollowed := true, recurses := true, apart := false }
def FnExactUnboundSaid : Prop := fnExactUnboundRow.holds Try.pinned (OpenSpec.ofChange fnExactUnboundSpec)

/-- ITS FALSE NEIGHBOUR: 'it returns false'. Refute it at one input. -/
def fnExactUnboundWrong : ChangeSpec := { name := "fnExactUnbound", fn := fun _ => fun
  | [d1, d2, d3] => { results := [.lit (.bool false)], args := [d1, d2, d3] }
  | _ => none }
def FnExactUnboundWrongFalsely : Prop := fnExactUnboundRow.holds Try.pinned (OpenSpec.ofChange fnExactUnboundWrong)

/-- 'laws.FnExactReportBy': WHATEVER THE INPUT: true; the input reads as it did. -/
def fnExactReportBySpec : ChangeSpec := { name := "fnExactReportBy", fn := fun _ => fun
  | [d1, d2, d3, d4] => { results := [.lit (.bool true)], args := [d1, d2, d3, d4] }
  | _ => none }
def fnExactReportByRow : OpenClaim := { program := "ytikhakmddcmbpaa", sum := "3b6425bc53fed7e91f43aa9ac3ae12cce8567fdb5d4b123243df5d9a606d3a88", func := "loop.example/g00567/laws.FnExactReportBy", spec := "fnExactReportBy", apart := false }
def FnExactReportBySaid : Prop := fnExactReportByRow.holds Try.pinned (OpenSpec.ofChange fnExactReportBySpec)

/-- ITS FALSE NEIGHBOUR: 'it returns false'. Refute it at one input. -/
def fnExactReportByWrong : ChangeSpec := { name := "fnExactReportBy", fn := fun _ => fun
  | [d1, d2, d3, d4] => { results := [.lit (.bool false)], args := [d1, d2, d3, d4] }
  | _ => none }
def FnExactReportByWrongFalsely : Prop := fnExactReportByRow.holds Try.pinned (OpenSpec.ofChange fnExactReportByWrong)

/-- 'laws.FnExactSupports': WHATEVER THE INPUT: true; the input reads as it did. -/
def fnExactSupportsSpec : ChangeSpec := { name := "fnExactSupports", fn := fun _ => fun
  | [d1, d2, d3, d4] => { results := [.lit (.bool true)], args := [d1, d2, d3, d4] }
  | _ => none }
def fnExactSupportsRow : OpenClaim := { program := "ytikhakmddcmbpaa", sum := "3b6425bc53fed7e91f43aa9ac3ae12cce8567fdb5d4b123243df5d9a606d3a88", func := "loop.example/g00567/laws.FnExactSupports", spec := "fnExactSupports", unfollowed := true, recurses := true, apart := false }
def FnExactSupportsSaid : Prop := fnExactSupportsRow.holds Try.pinned (OpenSpec.ofChange fnExactSupportsSpec)

/-- ITS FALSE NEIGHBOUR: 'it returns false'. Refute it at one input. -/
def fnExactSupportsWrong : ChangeSpec := { name := "fnExactSupports", fn := fun _ => fun
  | [d1, d2, d3, d4] => { results := [.lit (.bool false)], args := [d1, d2, d3, d4] }
  | _ => none }
def FnExactSupportsWrongFalsely : Prop := fnExactSupportsRow.holds Try.pinned (OpenSpec.ofChange fnExactSupportsWrong)

/-- 'laws.FnExactSafeVals': WHATEVER THE INPUT: true; the input reads as it did. -/
def fnExactSafeValsSpec : ChangeSpec := { name := "fnExactSafeVals", fn := fun _ => fun
  | [d1, d2, d3] => { results := [.lit (.bool true)], args := [d1, d2, d3] }
  | _ => none }
def fnExactSafeValsRow : OpenClaim := { program := "ytikhakmddcmbpaa", sum := "3b6425bc53fed7e91f43aa9ac3ae12cce8567fdb5d4b123243df5d9a606d3a88", func := "loop.example/g00567/laws.FnExactSafeVals", spec := "fnExactSafeVals", unfollowed := true, recurses := true, apart := false }
def FnExactSafeValsSaid : Prop := fnExactSafeValsRow.holds Try.pinned (OpenSpec.ofChange fnExactSafeValsSpec)

/-- ITS FALSE NEIGHBOUR: 'it returns false'. Refute it at one input. -/
def fnExactSafeValsWrong : ChangeSpec := { name := "fnExactSafeVals", fn := fun _ => fun
  | [d1, d2, d3] => { results := [.lit (.bool false)], args := [d1, d2, d3] }
  | _ => none }
def FnExactSafeValsWrongFalsely : Prop := fnExactSafeValsRow.holds Try.pinned (OpenSpec.ofChange fnExactSafeValsWrong)

/- THE SECOND FORM. 'bulk': how many values and letters a reading holds, each counted each time it is reached (what is shared counts as often as it is met; a slice's spare places count too). A statement '..UptoSaid' is the law's where the arguments, and the package variables that the reading takes, are together of bulk at most 1048576: NARROWER than '..Said'. Prove '..Said' where nothing that the law and all that it calls make is longer than what came in: it says more and counts as full. Else prove '..UptoSaid'. A law counts once. -/
mutual
def uptoBulk {H : Type} : DataW H → Nat
  | .lit (.string bytes) => bytes.length + 1
  | .lit _ => 1
  | .nil => 1
  | .ptr d => uptoBulk d + 1
  | .slice elems spare => uptoBulkAll elems + uptoBulkAll spare + 1
  | .agg parts => uptoBulkAll parts + 1
  | .iface _ d => uptoBulk d + 1
  | .map entries => uptoBulkEntries entries + 1
  | .held _ => 1
def uptoBulkAll {H : Type} : List (DataW H) → Nat
  | [] => 0
  | d :: r => uptoBulk d + uptoBulkAll r
def uptoBulkEntries {H : Type} : List (Lit × DataW H) → Nat
  | [] => 0
  | x :: r => uptoBulkEntry x + uptoBulkEntries r
def uptoBulkEntry {H : Type} : Lit × DataW H → Nat
  | (.string bytes, d) => bytes.length + uptoBulk d + 1
  | (_, d) => uptoBulk d + 1
 end
def uptoSmall : (H : Type) → List (DataW H) → Bool := fun _ ds => decide (uptoBulkAll ds ≤ 1048576)
def OpenSpec.upto (s : _root_.Go.ChangeSpec) : _root_.Go.OpenSpec := { _root_.Go.OpenSpec.ofChange s with cond := some uptoSmall }

/-- 'laws.FnReports', WHERE WHAT IT READS IS OF BULK AT MOST 1048576: true; the input reads as it did. -/
def fnReportsUptoRow : OpenClaim := { program := "ytikhakmddcmbpaa", sum := "3b6425bc53fed7e91f43aa9ac3ae12cce8567fdb5d4b123243df5d9a606d3a88", func := "loop.example/g00567/laws.FnReports", spec := "fnReports", unfollowed := true, recurses := true, apart := false, narrowed := true }
def FnReportsUptoSaid : Prop := fnReportsUptoRow.holds Try.pinned (OpenSpec.upto fnReportsSpec)

/-- 'laws.FnWitnesses', WHERE WHAT IT READS IS OF BULK AT MOST 1048576: true; the input reads as it did. -/
def fnWitnessesUptoRow : OpenClaim := { program := "ytikhakmddcmbpaa", sum := "3b6425bc53fed7e91f43aa9ac3ae12cce8567fdb5d4b123243df5d9a606d3a88", func := "loop.example/g00567/laws.FnWitnesses", spec := "fnWitnesses", unfollowed := true, recurses := true, apart := false, narrowed := true }
def FnWitnessesUptoSaid : Prop := fnWitnessesUptoRow.holds Try.pinned (OpenSpec.upto fnWitnessesSpec)

/-- 'laws.FnSafes', WHERE WHAT IT READS IS OF BULK AT MOST 1048576: true; the input reads as it did. -/
def fnSafesUptoRow : OpenClaim := { program := "ytikhakmddcmbpaa", sum := "3b6425bc53fed7e91f43aa9ac3ae12cce8567fdb5d4b123243df5d9a606d3a88", func := "loop.example/g00567/laws.FnSafes", spec := "fnSafes", unfollowed := true, recurses := true, apart := false, narrowed := true }
def FnSafesUptoSaid : Prop := fnSafesUptoRow.holds Try.pinned (OpenSpec.upto fnSafesSpec)

/-- 'laws.FnBounds', WHERE WHAT IT READS IS OF BULK AT MOST 1048576: true; the input reads as it did. -/
def fnBoundsUptoRow : OpenClaim := { program := "ytikhakmddcmbpaa", sum := "3b6425bc53fed7e91f43aa9ac3ae12cce8567fdb5d4b123243df5d9a606d3a88", func := "loop.example/g00567/laws.FnBounds", spec := "fnBounds", unfollowed := true, recurses := true, apart := false, narrowed := true }
def FnBoundsUptoSaid : Prop := fnBoundsUptoRow.holds Try.pinned (OpenSpec.upto fnBoundsSpec)

/-- 'laws.FnChooses', WHERE WHAT IT READS IS OF BULK AT MOST 1048576: true; the input reads as it did. -/
def fnChoosesUptoRow : OpenClaim := { program := "ytikhakmddcmbpaa", sum := "3b6425bc53fed7e91f43aa9ac3ae12cce8567fdb5d4b123243df5d9a606d3a88", func := "loop.example/g00567/laws.FnChooses", spec := "fnChooses", unfollowed := true, recurses := true, apart := false, narrowed := true }
def FnChoosesUptoSaid : Prop := fnChoosesUptoRow.holds Try.pinned (OpenSpec.upto fnChoosesSpec)

/-- 'laws.FnSupports', WHERE WHAT IT READS IS OF BULK AT MOST 1048576: true; the input reads as it did. -/
def fnSupportsUptoRow : OpenClaim := { program := "ytikhakmddcmbpaa", sum := "3b6425bc53fed7e91f43aa9ac3ae12cce8567fdb5d4b123243df5d9a606d3a88", func := "loop.example/g00567/laws.FnSupports", spec := "fnSupports", unfollowed := true, recurses := true, apart := false, narrowed := true }
def FnSupportsUptoSaid : Prop := fnSupportsUptoRow.holds Try.pinned (OpenSpec.upto fnSupportsSpec)

/-- 'laws.FnSafeVals', WHERE WHAT IT READS IS OF BULK AT MOST 1048576: true; the input reads as it did. -/
def fnSafeValsUptoRow : OpenClaim := { program := "ytikhakmddcmbpaa", sum := "3b6425bc53fed7e91f43aa9ac3ae12cce8567fdb5d4b123243df5d9a606d3a88", func := "loop.example/g00567/laws.FnSafeVals", spec := "fnSafeVals", unfollowed := true, recurses := true, apart := false, narrowed := true }
def FnSafeValsUptoSaid : Prop := fnSafeValsUptoRow.holds Try.pinned (OpenSpec.upto fnSafeValsSpec)

/-- 'laws.FnExactReportsOk', WHERE WHAT IT READS IS OF BULK AT MOST 1048576: true; the input reads as it did. -/
def fnExactReportsOkUptoRow : OpenClaim := { program := "ytikhakmddcmbpaa", sum := "3b6425bc53fed7e91f43aa9ac3ae12cce8567fdb5d4b123243df5d9a606d3a88", func := "loop.example/g00567/laws.FnExactReportsOk", spec := "fnExactReportsOk", apart := false, narrowed := true }
def FnExactReportsOkUptoSaid : Prop := fnExactReportsOkUptoRow.holds Try.pinned (OpenSpec.upto fnExactReportsOkSpec)

/-- 'laws.FnExactAddReport', WHERE WHAT IT READS IS OF BULK AT MOST 1048576: true; the input reads as it did. -/
def fnExactAddReportUptoRow : OpenClaim := { program := "ytikhakmddcmbpaa", sum := "3b6425bc53fed7e91f43aa9ac3ae12cce8567fdb5d4b123243df5d9a606d3a88", func := "loop.example/g00567/laws.FnExactAddReport", spec := "fnExactAddReport", apart := false, narrowed := true }
def FnExactAddReportUptoSaid : Prop := fnExactAddReportUptoRow.holds Try.pinned (OpenSpec.upto fnExactAddReportSpec)

/-- 'laws.FnExactWitnesses', WHERE WHAT IT READS IS OF BULK AT MOST 1048576: true; the input reads as it did. -/
def fnExactWitnessesUptoRow : OpenClaim := { program := "ytikhakmddcmbpaa", sum := "3b6425bc53fed7e91f43aa9ac3ae12cce8567fdb5d4b123243df5d9a606d3a88", func := "loop.example/g00567/laws.FnExactWitnesses", spec := "fnExactWitnesses", unfollowed := true, recurses := true, apart := false, narrowed := true }
def FnExactWitnessesUptoSaid : Prop := fnExactWitnessesUptoRow.holds Try.pinned (OpenSpec.upto fnExactWitnessesSpec)

/-- 'laws.FnExactGrounds', WHERE WHAT IT READS IS OF BULK AT MOST 1048576: true; the input reads as it did. -/
def fnExactGroundsUptoRow : OpenClaim := { program := "ytikhakmddcmbpaa", sum := "3b6425bc53fed7e91f43aa9ac3ae12cce8567fdb5d4b123243df5d9a606d3a88", func := "loop.example/g00567/laws.FnExactGrounds", spec := "fnExactGrounds", unfollowed := true, recurses := true, apart := false, narrowed := true }
def FnExactGroundsUptoSaid : Prop := fnExactGroundsUptoRow.holds Try.pinned (OpenSpec.upto fnExactGroundsSpec)

/-- 'laws.FnExactFree', WHERE WHAT IT READS IS OF BULK AT MOST 1048576: true; the input reads as it did. -/
def fnExactFreeUptoRow : OpenClaim := { program := "ytikhakmddcmbpaa", sum := "3b6425bc53fed7e91f43aa9ac3ae12cce8567fdb5d4b123243df5d9a606d3a88", func := "loop.example/g00567/laws.FnExactFree", spec := "fnExactFree", unfollowed := true, recurses := true, apart := false, narrowed := true }
def FnExactFreeUptoSaid : Prop := fnExactFreeUptoRow.holds Try.pinned (OpenSpec.upto fnExactFreeSpec)

/-- 'laws.FnExactSafe', WHERE WHAT IT READS IS OF BULK AT MOST 1048576: true; the input reads as it did. -/
def fnExactSafeUptoRow : OpenClaim := { program := "ytikhakmddcmbpaa", sum := "3b6425bc53fed7e91f43aa9ac3ae12cce8567fdb5d4b123243df5d9a606d3a88", func := "loop.example/g00567/laws.FnExactSafe", spec := "fnExactSafe", unfollowed := true, recurses := true, apart := false, narrowed := true }
def FnExactSafeUptoSaid : Prop := fnExactSafeUptoRow.holds Try.pinned (OpenSpec.upto fnExactSafeSpec)

/-- 'laws.FnExactChoose', WHERE WHAT IT READS IS OF BULK AT MOST 1048576: true; the input reads as it did. -/
def fnExactChooseUptoRow : OpenClaim := { program := "ytikhakmddcmbpaa", sum := "3b6425bc53fed7e91f43aa9ac3ae12cce8567fdb5d4b123243df5d9a606d3a88", func := "loop.example/g00567/laws.FnExactChoose", spec := "fnExactChoose", unfollowed := true, recurses := true, apart := false, narrowed := true }
def FnExactChooseUptoSaid : Prop := fnExactChooseUptoRow.holds Try.pinned (OpenSpec.upto fnExactChooseSpec)

/-- 'laws.FnExactUnbound', WHERE WHAT IT READS IS OF BULK AT MOST 1048576: true; the input reads as it did. -/
def fnExactUnboundUptoRow : OpenClaim := { program := "ytikhakmddcmbpaa", sum := "3b6425bc53fed7e91f43aa9ac3ae12cce8567fdb5d4b123243df5d9a606d3a88", func := "loop.example/g00567/laws.FnExactUnbound", spec := "fnExactUnbound", unfollowed := true, recurses := true, apart := false, narrowed := true }
def FnExactUnboundUptoSaid : Prop := fnExactUnboundUptoRow.holds Try.pinned (OpenSpec.upto fnExactUnboundSpec)

/-- 'laws.FnExactReportBy', WHERE WHAT IT READS IS OF BULK AT MOST 1048576: true; the input reads as it did. -/
def fnExactReportByUptoRow : OpenClaim := { program := "ytikhakmddcmbpaa", sum := "3b6425bc53fed7e91f43aa9ac3ae12cce8567fdb5d4b123243df5d9a606d3a88", func := "loop.example/g00567/laws.FnExactReportBy", spec := "fnExactReportBy", apart := false, narrowed := true }
def FnExactReportByUptoSaid : Prop := fnExactReportByUptoRow.holds Try.pinned (OpenSpec.upto fnExactReportBySpec)

/-- 'laws.FnExactSupports', WHERE WHAT IT READS IS OF BULK AT MOST 1048576: true; the input reads as it did. -/
def fnExactSupportsUptoRow : OpenClaim := { program := "ytikhakmddcmbpaa", sum := "3b6425bc53fed7e91f43aa9ac3ae12cce8567fdb5d4b123243df5d9a606d3a88", func := "loop.example/g00567/laws.FnExactSupports", spec := "fnExactSupports", unfollowed := true, recurses := true, apart := false, narrowed := true }
def FnExactSupportsUptoSaid : Prop := fnExactSupportsUptoRow.holds Try.pinned (OpenSpec.upto fnExactSupportsSpec)

/-- 'laws.FnExactSafeVals', WHERE WHAT IT READS IS OF BULK AT MOST 1048576: true; the input reads as it did. -/
def fnExactSafeValsUptoRow : OpenClaim := { program := "ytikhakmddcmbpaa", sum := "3b6425bc53fed7e91f43aa9ac3ae12cce8567fdb5d4b123243df5d9a606d3a88", func := "loop.example/g00567/laws.FnExactSafeVals", spec := "fnExactSafeVals", unfollowed := true, recurses := true, apart := false, narrowed := true }
def FnExactSafeValsUptoSaid : Prop := fnExactSafeValsUptoRow.holds Try.pinned (OpenSpec.upto fnExactSafeValsSpec)

end Rows
end Go.Proofs.Ytikhakmddcmbpaa
