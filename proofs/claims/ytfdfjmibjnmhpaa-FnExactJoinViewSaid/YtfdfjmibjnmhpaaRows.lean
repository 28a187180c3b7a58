/-
  No cell of these rows narrows 'for every input' (looked for: loops, veiled, ifaces, maps, wideKeys, modest, calm, conditions, laid).
  DERIVED. THE GIVEN ROWS OF THIS SEAT. 5 by the template 'for every input the law returns true; each argument reads behind the call as it read before'; 0 by the template 'total and deterministic' (their statements: YtfdfjmibjnmhpaaTotals.lean).
  GIVEN WITH THE SEED: the statements are not yours to turn. If you find one false, say at which input.
  Laid BY PROGRAM, IN A SANDBOX (cutbox-rows.mjs): the forced cells as the released guide's own fill.sh prints them over the translation 926641799a28ac9a… (all of the seat's roots in one cut). By AI agents, Wed Nov 11 2026. No macro, syntax, notation, axiom, sorry.
-/
import Derived.Test.YtfdfjmibjnmhpaaChecked
import GoSem.Claim
import GoSem.ClaimJoined
import GoSem.ClaimMapViews
import Derived.JoinedTies
import Derived.KernelRfl
namespace Go.Proofs.Ytfdfjmibjnmhpaa
/- THE CELL 'sum', in the pinned program and in every row, IS THE sha256 OF THE DUMP (.gsa) THAT YtfdfjmibjnmhpaaProg.lean LOADS. Nothing in Lean hashes anything: it is a label: what it is worth is what the hold of that sum in a sandbox is worth. -/
noncomputable def Try.pinned : Pinned := { name := "ytfdfjmibjnmhpaa", sum := "926641799a28ac9a297511c01e04f16342997b4bc1aa1cd2f2871090c8ac921a", checked := Try.checked }
namespace Rows
def none {H : Type} : Left H := { results := [], args := [] }

/-- 'laws.FnExactJoinView': WHATEVER THE INPUT: true; the input reads as it did. -/
def fnExactJoinViewSpec : ChangeSpec := { name := "fnExactJoinView", fn := fun _ => fun
  | [d] => { results := [.lit (.bool true)], args := [d] }
  | _ => none }
def fnExactJoinViewRow : OpenClaim := { program := "ytfdfjmibjnmhpaa", sum := "926641799a28ac9a297511c01e04f16342997b4bc1aa1cd2f2871090c8ac921a", func := "loop.example/g00567/laws.FnExactJoinView", spec := "fnExactJoinView", unfollowed := true, recurses := true, plainKeys := false, apart := false }
def FnExactJoinViewSaid : Prop := fnExactJoinViewRow.holds Try.pinned (OpenSpec.ofChange fnExactJoinViewSpec)

/-- ITS FALSE NEIGHBOUR: 'it returns false'. Refute it at one input. -/
def fnExactJoinViewWrong : ChangeSpec := { name := "fnExactJoinView", fn := fun _ => fun
  | [d] => { results := [.lit (.bool false)], args := [d] }
  | _ => none }
def FnExactJoinViewWrongFalsely : Prop := fnExactJoinViewRow.holds Try.pinned (OpenSpec.ofChange fnExactJoinViewWrong)

/-- 'laws.FnExactReportOf': WHATEVER THE INPUT: true; the input reads as it did. -/
def fnExactReportOfSpec : ChangeSpec := { name := "fnExactReportOf", fn := fun _ => fun
  | [d1, d2] => { results := [.lit (.bool true)], args := [d1, d2] }
  | _ => none }
def fnExactReportOfRow : OpenClaim := { program := "ytfdfjmibjnmhpaa", sum := "926641799a28ac9a297511c01e04f16342997b4bc1aa1cd2f2871090c8ac921a", func := "loop.example/g00567/laws.FnExactReportOf", spec := "fnExactReportOf", unfollowed := true, recurses := true, plainKeys := false, apart := false }
def FnExactReportOfSaid : Prop := fnExactReportOfRow.holds Try.pinned (OpenSpec.ofChange fnExactReportOfSpec)

/-- ITS FALSE NEIGHBOUR: 'it returns false'. Refute it at one input. -/
def fnExactReportOfWrong : ChangeSpec := { name := "fnExactReportOf", fn := fun _ => fun
  | [d1, d2] => { results := [.lit (.bool false)], args := [d1, d2] }
  | _ => none }
def FnExactReportOfWrongFalsely : Prop := fnExactReportOfRow.holds Try.pinned (OpenSpec.ofChange fnExactReportOfWrong)

/-- 'laws.FnExactHeardFrom': WHATEVER THE INPUT: true; the input reads as it did. -/
def fnExactHeardFromSpec : ChangeSpec := { name := "fnExactHeardFrom", fn := fun _ => fun
  | [d1, d2] => { results := [.lit (.bool true)], args := [d1, d2] }
  | _ => none }
def fnExactHeardFromRow : OpenClaim := { program := "ytfdfjmibjnmhpaa", sum := "926641799a28ac9a297511c01e04f16342997b4bc1aa1cd2f2871090c8ac921a", func := "loop.example/g00567/laws.FnExactHeardFrom", spec := "fnExactHeardFrom", unfollowed := true, recurses := true, plainKeys := false, apart := false }
def FnExactHeardFromSaid : Prop := fnExactHeardFromRow.holds Try.pinned (OpenSpec.ofChange fnExactHeardFromSpec)

/-- ITS FALSE NEIGHBOUR: 'it returns false'. Refute it at one input. -/
def fnExactHeardFromWrong : ChangeSpec := { name := "fnExactHeardFrom", fn := fun _ => fun
  | [d1, d2] => { results := [.lit (.bool false)], args := [d1, d2] }
  | _ => none }
def FnExactHeardFromWrongFalsely : Prop := fnExactHeardFromRow.holds Try.pinned (OpenSpec.ofChange fnExactHeardFromWrong)

/-- 'laws.FnExactTellOf': WHATEVER THE INPUT: true; the input reads as it did. -/
def fnExactTellOfSpec : ChangeSpec := { name := "fnExactTellOf", fn := fun _ => fun
  | [d1, d2] => { results := [.lit (.bool true)], args := [d1, d2] }
  | _ => none }
def fnExactTellOfRow : OpenClaim := { program := "ytfdfjmibjnmhpaa", sum := "926641799a28ac9a297511c01e04f16342997b4bc1aa1cd2f2871090c8ac921a", func := "loop.example/g00567/laws.FnExactTellOf", spec := "fnExactTellOf", unfollowed := true, recurses := true, plainKeys := false, apart := false }
def FnExactTellOfSaid : Prop := fnExactTellOfRow.holds Try.pinned (OpenSpec.ofChange fnExactTellOfSpec)

/-- ITS FALSE NEIGHBOUR: 'it returns false'. Refute it at one input. -/
def fnExactTellOfWrong : ChangeSpec := { name := "fnExactTellOf", fn := fun _ => fun
  | [d1, d2] => { results := [.lit (.bool false)], args := [d1, d2] }
  | _ => none }
def FnExactTellOfWrongFalsely : Prop := fnExactTellOfRow.holds Try.pinned (OpenSpec.ofChange fnExactTellOfWrong)

/-- 'laws.FnExactLies': WHATEVER THE INPUT: true; the input reads as it did. -/
def fnExactLiesSpec : ChangeSpec := { name := "fnExactLies", fn := fun _ => fun
  | [d] => { results := [.lit (.bool true)], args := [d] }
  | _ => none }
def fnExactLiesRow : OpenClaim := { program := "ytfdfjmibjnmhpaa", sum := "926641799a28ac9a297511c01e04f16342997b4bc1aa1cd2f2871090c8ac921a", func := "loop.example/g00567/laws.FnExactLies", spec := "fnExactLies", plainKeys := false, apart := false }
def FnExactLiesSaid : Prop := fnExactLiesRow.holds Try.pinned (OpenSpec.ofChange fnExactLiesSpec)

/-- ITS FALSE NEIGHBOUR: 'it returns false'. Refute it at one input. -/
def fnExactLiesWrong : ChangeSpec := { name := "fnExactLies", fn := fun _ => fun
  | [d] => { results := [.lit (.bool false)], args := [d] }
  | _ => none }
def FnExactLiesWrongFalsely : Prop := fnExactLiesRow.holds Try.pinned (OpenSpec.ofChange fnExactLiesWrong)

/- THE SECOND FORM. 'bulk': how many values and letters a reading holds, each counted each time it is reached (what is shared counts as often as it is met; a slice's spare places count too). A statement '..UptoSaid' is the law's where the arguments, and the package variables that the reading takes, are together of bulk at most 1048576: NARROWER than '..Said'. Prove '..Said' where nothing that the law and all that it calls make is longer than what came in: it says more and counts as full. Else prove '..UptoSaid'. A law counts once. -/
mutual
def uptoBulk {H : Type} : DataW H → Nat
  | .lit (.string bytes) => bytes.length + 1
  | .lit _ => 1
  | .nil => 1
  | .ptr d => uptoBulk d + 1
  | .slice elems spare => uptoBulkAll elems + uptoBulkAll spare + 1
  | .agg parts => uptoBulkAll parts + 1
  | .iface _ d => uptoBulk d + 1
  | .map entries => uptoBulkEntries entries + 1
  | .held _ => 1
def uptoBulkAll {H : Type} : List (DataW H) → Nat
  | [] => 0
  | d :: r => uptoBulk d + uptoBulkAll r
def uptoBulkEntries {H : Type} : List (Lit × DataW H) → Nat
  | [] => 0
  | x :: r => uptoBulkEntry x + uptoBulkEntries r
def uptoBulkEntry {H : Type} : Lit × DataW H → Nat
  | (.string bytes, d) => bytes.length + uptoBulk d + 1
  | (_, d) => uptoBulk d + 1
 end
def uptoSmall : (H : Type) → List (DataW H) → Bool := fun _ ds => decide (uptoBulkAll ds ≤ 1048576)
def OpenSpec.upto (s : _root_.Go.ChangeSpec) : _root_.Go.OpenSpec := { _root_.Go.OpenSpec.ofChange s with cond := some uptoSmall }

/-- 'laws.FnExactJoinView', WHERE WHAT IT READS IS OF BULK AT MOST 1048576: true; the input reads as it did. -/
def fnExactJoinViewUptoRow : OpenClaim := { program := "ytfdfjmibjnmhpaa", sum := "926641799a28ac9a297511c01e04f16342997b4bc1aa1cd2f2871090c8ac921a", func := "loop.example/g00567/laws.FnExactJoinView", spec := "fnExactJoinView", unfollowed := true, recurses := true, plainKeys := false, apart := false, narrowed := true }
def FnExactJoinViewUptoSaid : Prop := fnExactJoinViewUptoRow.holds Try.pinned (OpenSpec.upto fnExactJoinViewSpec)

/-- 'laws.FnExactReportOf', WHERE WHAT IT READS IS OF BULK AT MOST 1048576: true; the input reads as it did. -/
def fnExactReportOfUptoRow : OpenClaim := { program := "ytfdfjmibjnmhpaa", sum := "926641799a28ac9a297511c01e04f16342997b4bc1aa1cd2f2871090c8ac921a", func := "loop.example/g00567/laws.FnExactReportOf", spec := "fnExactReportOf", unfollowed := true, recurses := true, plainKeys := false, apart := false, narrowed := true }
def FnExactReportOfUptoSaid : Prop := fnExactReportOfUptoRow.holds Try.pinned (OpenSpec.upto fnExactReportOfSpec)

/-- 'laws.FnExactHeardFrom', WHERE WHAT IT READS IS OF BULK AT MOST 1048576: true; the input reads as it did. -/
def fnExactHeardFromUptoRow : OpenClaim := { program := "ytfdfjmibjnmhpaa", sum := "926641799a28ac9a297511c01e04f16342997b4bc1aa1cd2f2871090c8ac921a", func := "loop.example/g00567/laws.FnExactHeardFrom", spec := "fnExactHeardFrom", unfollowed := true, recurses := true, plainKeys := false, apart := false, narrowed := true }
def FnExactHeardFromUptoSaid : Prop := fnExactHeardFromUptoRow.holds Try.pinned (OpenSpec.upto fnExactHeardFromSpec)

/-- 'laws.FnExactTellOf', WHERE WHAT IT READS IS OF BULK AT MOST 1048576: true; the input reads as it did. -/
def fnExactTellOfUptoRow : OpenClaim := { program := "ytfdfjmibjnmhpaa", sum := "926641799a28ac9a297511c01e04f16342997b4bc1aa1cd2f2871090c8ac921a", func := "loop.example/g00567/laws.FnExactTellOf", spec := "fnExactTellOf", unfollowed := true, recurses := true, plainKeys := false, apart := false, narrowed := true }
def FnExactTellOfUptoSaid : Prop := fnExactTellOfUptoRow.holds Try.pinned (OpenSpec.upto fnExactTellOfSpec)

/-- 'laws.FnExactLies', WHERE WHAT IT READS IS OF BULK AT MOST 1048576: true; the input reads as it did. -/
def fnExactLiesUptoRow : OpenClaim := { program := "ytfdfjmibjnmhpaa", sum := "926641799a28ac9a297511c01e04f16342997b4bc1aa1cd2f2871090c8ac921a", func := "loop.example/g00567/laws.FnExactLies", spec := "fnExactLies", plainKeys := false, apart := false, narrowed := true }
def FnExactLiesUptoSaid : Prop := fnExactLiesUptoRow.holds Try.pinned (OpenSpec.upto fnExactLiesSpec)

end Rows
end Go.Proofs.Ytfdfjmibjnmhpaa
