/-
  No cell of these rows narrows 'for every input' (looked for: loops, veiled, ifaces, maps, wideKeys, modest, calm, conditions, laid).
  DERIVED. THE GIVEN ROWS OF THIS SEAT. 5 by the template 'for every input the law returns true; each argument reads behind the call as it read before'; 0 by the template 'total and deterministic' (their statements: YtcfjmhebhhekbaaTotals.lean).
  GIVEN WITH THE SEED: the statements are not yours to turn. If you find one false, say at which input.
  Laid BY PROGRAM, IN A SANDBOX (cutbox-rows.mjs): the forced cells as the released guide's own fill.sh prints them over the translation 5d9ce70e1e7d17eb… (all of the seat's roots in one cut). By AI agents, Wed Nov 11 2026. No macro, syntax, notation, axiom, sorry.
-/
import Derived.Test.YtcfjmhebhhekbaaChecked
import GoSem.Claim
import GoSem.ClaimJoined
import GoSem.ClaimMapViews
import Derived.JoinedTies
import Derived.KernelRfl
namespace Go.Proofs.Ytcfjmhebhhekbaa
/- THE CELL 'sum', in the pinned program and in every row, IS THE sha256 OF THE DUMP (.gsa) THAT YtcfjmhebhhekbaaProg.lean LOADS. Nothing in Lean hashes anything: it is a label: what it is worth is what the hold of that sum in a sandbox is worth. -/
noncomputable def Try.pinned : Pinned := { name := "ytcfjmhebhhekbaa", sum := "5d9ce70e1e7d17eb49663d3246fcb21e5ef78b09273110b6a6663eb0a4872d56", checked := Try.checked }
namespace Rows
def none {H : Type} : Left H := { results := [], args := [] }

/-- 'laws.FnReports': WHATEVER THE INPUT: true; the input reads as it did. -/
def fnReportsSpec : ChangeSpec := { name := "fnReports", fn := fun _ => fun
  | [d] => { results := [.lit (.bool true)], args := [d] }
  | _ => none }
def fnReportsRow : OpenClaim := { program := "ytcfjmhebhhekbaa", sum := "5d9ce70e1e7d17eb49663d3246fcb21e5ef78b09273110b6a6663eb0a4872d56", func := "loop.example/g00567/laws.FnReports", spec := "fnReports", unfollowed := true, recurses := true, apart := false }
def FnReportsSaid : Prop := fnReportsRow.holds Try.pinned (OpenSpec.ofChange fnReportsSpec)

/-- ITS FALSE NEIGHBOUR: 'it returns false'. Refute it at one input. -/
def fnReportsWrong : ChangeSpec := { name := "fnReports", fn := fun _ => fun
  | [d] => { results := [.lit (.bool false)], args := [d] }
  | _ => none }
def FnReportsWrongFalsely : Prop := fnReportsRow.holds Try.pinned (OpenSpec.ofChange fnReportsWrong)

/-- 'laws.FnSafes': WHATEVER THE INPUT: true; the input reads as it did. -/
def fnSafesSpec : ChangeSpec := { name := "fnSafes", fn := fun _ => fun
  | [d] => { results := [.lit (.bool true)], args := [d] }
  | _ => none }
def fnSafesRow : OpenClaim := { program := "ytcfjmhebhhekbaa", sum := "5d9ce70e1e7d17eb49663d3246fcb21e5ef78b09273110b6a6663eb0a4872d56", func := "loop.example/g00567/laws.FnSafes", spec := "fnSafes", unfollowed := true, recurses := true, apart := false }
def FnSafesSaid : Prop := fnSafesRow.holds Try.pinned (OpenSpec.ofChange fnSafesSpec)

/-- ITS FALSE NEIGHBOUR: 'it returns false'. Refute it at one input. -/
def fnSafesWrong : ChangeSpec := { name := "fnSafes", fn := fun _ => fun
  | [d] => { results := [.lit (.bool false)], args := [d] }
  | _ => none }
def FnSafesWrongFalsely : Prop := fnSafesRow.holds Try.pinned (OpenSpec.ofChange fnSafesWrong)

/-- 'laws.FnSafeVals': WHATEVER THE INPUT: true; the input reads as it did. -/
def fnSafeValsSpec : ChangeSpec := { name := "fnSafeVals", fn := fun _ => fun
  | [d] => { results := [.lit (.bool true)], args := [d] }
  | _ => none }
def fnSafeValsRow : OpenClaim := { program := "ytcfjmhebhhekbaa", sum := "5d9ce70e1e7d17eb49663d3246fcb21e5ef78b09273110b6a6663eb0a4872d56", func := "loop.example/g00567/laws.FnSafeVals", spec := "fnSafeVals", unfollowed := true, recurses := true, apart := false }
def FnSafeValsSaid : Prop := fnSafeValsRow.holds Try.pinned (OpenSpec.ofChange fnSafeValsSpec)

/-- ITS FALSE NEIGHBOUR: 'it returns false'. Refute it at one input. -/
def fnSafeValsWrong : ChangeSpec := { name := "fnSafeVals", fn := fun _ => fun
  | [d] => { results := [.lit (.bool false)], args := [d] }
  | _ => none }
def FnSafeValsWrongFalsely : Prop := fnSafeValsRow.holds Try.pinned (OpenSpec.ofChange fnSafeValsWrong)

/-- 'laws.FnExactAddReport': WHATEVER THE INPUT: true; the input reads as it did. -/
def fnExactAddReportSpec : ChangeSpec := { name := "fnExactAddReport", fn := fun _ => fun
  | [d1, d2, d3, d4] => { results := [.lit (.bool true)], args := [d1, d2, d3, d4] }
  | _ => none }
def fnExactAddReportRow : OpenClaim := { program := "ytcfjmhebhhekbaa", sum := "5d9ce70e1e7d17eb49663d3246fcb21e5ef78b09273110b6a6663eb0a4872d56", func := "loop.example/g00567/laws.FnExactAddReport", spec := "fnExactAddReport", apart := false }
def FnExactAddReportSaid : Prop := fnExactAddReportRow.holds Try.pinned (OpenSpec.ofChange fnExactAddReportSpec)

/-- ITS FALSE NEIGHBOUR: 'it returns false'. Refute it at one input. -/
def fnExactAddReportWrong : ChangeSpec := { name := "fnExactAddReport", fn := fun _ => fun
  | [d1, d2, d3, d4] => { results := [.lit (.bool false)], args := [d1, d2, d3, d4] }
  | _ => none }
def FnExactAddReportWrongFalsely : Prop := fnExactAddReportRow.holds Try.pinned (OpenSpec.ofChange fnExactAddReportWrong)

/-- 'laws.FnExactReportBy': WHATEVER THE INPUT: true; the input reads as it did. -/
def fnExactReportBySpec : ChangeSpec := { name := "fnExactReportBy", fn := fun _ => fun
  | [d1, d2, d3, d4] => { results := [.lit (.bool true)], args := [d1, d2, d3, d4] }
  | _ => none }
def fnExactReportByRow : OpenClaim := { program := "ytcfjmhebhhekbaa", sum := "5d9ce70e1e7d17eb49663d3246fcb21e5ef78b09273110b6a6663eb0a4872d56", func := "loop.example/g00567/laws.FnExactReportBy", spec := "fnExactReportBy", apart := false }
def FnExactReportBySaid : Prop := fnExactReportByRow.holds Try.pinned (OpenSpec.ofChange fnExactReportBySpec)

/-- ITS FALSE NEIGHBOUR: 'it returns false'. Refute it at one input. -/
def fnExactReportByWrong : ChangeSpec := { name := "fnExactReportBy", fn := fun _ => fun
  | [d1, d2, d3, d4] => { results := [.lit (.bool false)], args := [d1, d2, d3, d4] }
  | _ => none }
def FnExactReportByWrongFalsely : Prop := fnExactReportByRow.holds Try.pinned (OpenSpec.ofChange fnExactReportByWrong)

/- THE SECOND FORM. 'bulk': how many values and letters a reading holds, each counted each time it is reached (what is shared counts as often as it is met; a slice's spare places count too). A statement '..UptoSaid' is the law's where the arguments, and the package variables that the reading takes, are together of bulk at most 1048576: NARROWER than '..Said'. Prove '..Said' where nothing that the law and all that it calls make is longer than what came in: it says more and counts as full. Else prove '..UptoSaid'. A law counts once. -/
mutual
def uptoBulk {H : Type} : DataW H → Nat
  | .lit (.string bytes) => bytes.length + 1
  | .lit _ => 1
  | .nil => 1
  | .ptr d => uptoBulk d + 1
  | .slice elems spare => uptoBulkAll elems + uptoBulkAll spare + 1
  | .agg parts => uptoBulkAll parts + 1
  | .iface _ d => uptoBulk d + 1
  | .map entries => uptoBulkEntries entries + 1
  | .held _ => 1
def uptoBulkAll {H : Type} : List (DataW H) → Nat
  | [] => 0
  | d :: r => uptoBulk d + uptoBulkAll r
def uptoBulkEntries {H : Type} : List (Lit × DataW H) → Nat
  | [] => 0
  | x :: r => uptoBulkEntry x + uptoBulkEntries r
def uptoBulkEntry {H : Type} : Lit × DataW H → Nat
  | (.string bytes, d) => bytes.length + uptoBulk d + 1
  | (_, d) => uptoBulk d + 1
 end
def uptoSmall : (H : Type) → List (DataW H) → Bool := fun _ ds => decide (uptoBulkAll ds ≤ 1048576)
def OpenSpec.upto (s : _root_.Go.ChangeSpec) : _root_.Go.OpenSpec := { _root_.Go.OpenSpec.ofChange s with cond := some uptoSmall }

/-- 'laws.FnReports', WHERE WHAT IT READS IS OF BULK AT MOST 1048576: true; the input reads as it did. -/
def fnReportsUptoRow : OpenClaim := { program := "ytcfjmhebhhekbaa", sum := "5d9ce70e1e7d17eb49663d3246fcb21e5ef78b09273110b6a6663eb0a4872d56", func := "loop.example/g00567/laws.FnReports", spec := "fnReports", unfollowed := true, recurses := true, apart := false, narrowed := true }
def FnReportsUptoSaid : Prop := fnReportsUptoRow.holds Try.pinned (OpenSpec.upto fnReportsSpec)

/-- 'laws.FnSafes', WHERE WHAT IT READS IS OF BULK AT MOST 1048576: true; the input reads as it did. -/
def fnSafesUptoRow : OpenClaim := { program := "ytcfjmhebhhekbaa", sum := "5d9ce70e1e7d17eb49663d3246fcb21e5ef78b09273110b6a6663eb0a4872d56", func := "loop.example/g00567/laws.FnSafes", spec := "fnSafes", unfollowed := true, recurses := true, apart := false, narrowed := true }
def FnSafesUptoSaid : Prop := fnSafesUptoRow.holds Try.pinned (OpenSpec.upto fnSafesSpec)

/-- 'laws.FnSafeVals', WHERE WHAT IT READS IS OF BULK AT MOST 1048576: true; the input reads as it did. -/
def fnSafeValsUptoRow : OpenClaim := { program := "ytcfjmhebhhekbaa", sum := "5d9ce70e1e7d17eb49663d3246fcb21e5ef78b09273110b6a6663eb0a4872d56", func := "loop.example/g00567/laws.FnSafeVals", spec := "fnSafeVals", unfollowed := true, recurses := true, apart := false, narrowed := true }
def FnSafeValsUptoSaid : Prop := fnSafeValsUptoRow.holds Try.pinned (OpenSpec.upto fnSafeValsSpec)

/-- 'laws.FnExactAddReport', WHERE WHAT IT READS IS OF BULK AT MOST 1048576: true; the input reads as it did. -/
def fnExactAddReportUptoRow : OpenClaim := { program := "ytcfjmhebhhekbaa", sum := "5d9ce70e1e7d17eb49663d3246fcb21e5ef78b09273110b6a6663eb0a4872d56", func := "loop.example/g00567/laws.FnExactAddReport", spec := "fnExactAddReport", apart := false, narrowed := true }
def FnExactAddReportUptoSaid : Prop := fnExactAddReportUptoRow.holds Try.pinned (OpenSpec.upto fnExactAddReportSpec)

/-- 'laws.FnExactReportBy', WHERE WHAT IT READS IS OF BULK AT MOST 1048576: true; the input reads as it did. -/
def fnExactReportByUptoRow : OpenClaim := { program := "ytcfjmhebhhekbaa", sum := "5d9ce70e1e7d17eb49663d3246fcb21e5ef78b09273110b6a6663eb0a4872d56", func := "loop.example/g00567/laws.FnExactReportBy", spec := "fnExactReportBy", apart := false, narrowed := true }
def FnExactReportByUptoSaid : Prop := fnExactReportByUptoRow.holds Try.pinned (OpenSpec.upto fnExactReportBySpec)

end Rows
end Go.Proofs.Ytcfjmhebhhekbaa
