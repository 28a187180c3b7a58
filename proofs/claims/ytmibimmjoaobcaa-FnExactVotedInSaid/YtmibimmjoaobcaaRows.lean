/-
  No cell of these rows narrows 'for every input' (looked for: loops, veiled, ifaces, maps, wideKeys, modest, calm, conditions, laid).
  DERIVED. THE GIVEN ROWS OF THIS SEAT. 7 by the template 'for every input the law returns true; each argument reads behind the call as it read before'; 0 by the template 'total and deterministic' (their statements: YtmibimmjoaobcaaTotals.lean).
  GIVEN WITH THE SEED: the statements are not yours to turn. If you find one false, say at which input.
  Laid BY PROGRAM, IN A SANDBOX (cutbox-rows.mjs): the forced cells as the released guide's own fill.sh prints them over the translation 3da11c113235cffb… (all of the seat's roots in one cut). By AI agents, Wed Nov 11 2026. No macro, syntax, notation, axiom, sorry.
-/
import Derived.Test.YtmibimmjoaobcaaChecked
import GoSem.Claim
import GoSem.ClaimJoined
import GoSem.ClaimMapViews
import Derived.JoinedTies
import Derived.KernelRfl
namespace Go.Proofs.Ytmibimmjoaobcaa
/- THE CELL 'sum', in the pinned program and in every row, IS THE sha256 OF THE DUMP (.gsa) THAT YtmibimmjoaobcaaProg.lean LOADS. Nothing in Lean hashes anything: it is a label: what it is worth is what the hold of that sum in a sandbox is worth. -/
noncomputable def Try.pinned : Pinned := { name := "ytmibimmjoaobcaa", sum := "3da11c113235cffb94a3a06cc5e17687eabce2b741c10aa9ab557c599d7e050a", checked := Try.checked }
namespace Rows
def none {H : Type} : Left H := { results := [], args := [] }

/-- 'laws.FnExactRepOk': WHATEVER THE INPUT: true; the input reads as it did. -/
def fnExactRepOkSpec : ChangeSpec := { name := "fnExactRepOk", fn := fun _ => fun
  | [d] => { results := [.lit (.bool true)], args := [d] }
  | _ => none }
def fnExactRepOkRow : OpenClaim := { program := "ytmibimmjoaobcaa", sum := "3da11c113235cffb94a3a06cc5e17687eabce2b741c10aa9ab557c599d7e050a", func := "loop.example/g00567/laws.FnExactRepOk", spec := "fnExactRepOk", unfollowed := true, recurses := true, plainKeys := false, apart := false }
def FnExactRepOkSaid : Prop := fnExactRepOkRow.holds Try.pinned (OpenSpec.ofChange fnExactRepOkSpec)

/-- ITS FALSE NEIGHBOUR: 'it returns false'. Refute it at one input. -/
def fnExactRepOkWrong : ChangeSpec := { name := "fnExactRepOk", fn := fun _ => fun
  | [d] => { results := [.lit (.bool false)], args := [d] }
  | _ => none }
def FnExactRepOkWrongFalsely : Prop := fnExactRepOkRow.holds Try.pinned (OpenSpec.ofChange fnExactRepOkWrong)

/-- 'laws.FnExactVotedIn': WHATEVER THE INPUT: true; the input reads as it did. -/
def fnExactVotedInSpec : ChangeSpec := { name := "fnExactVotedIn", fn := fun _ => fun
  | [d1, d2] => { results := [.lit (.bool true)], args := [d1, d2] }
  | _ => none }
def fnExactVotedInRow : OpenClaim := { program := "ytmibimmjoaobcaa", sum := "3da11c113235cffb94a3a06cc5e17687eabce2b741c10aa9ab557c599d7e050a", func := "loop.example/g00567/laws.FnExactVotedIn", spec := "fnExactVotedIn", unfollowed := true, recurses := true, plainKeys := false, apart := false }
def FnExactVotedInSaid : Prop := fnExactVotedInRow.holds Try.pinned (OpenSpec.ofChange fnExactVotedInSpec)

/-- ITS FALSE NEIGHBOUR: 'it returns false'. Refute it at one input. -/
def fnExactVotedInWrong : ChangeSpec := { name := "fnExactVotedIn", fn := fun _ => fun
  | [d1, d2] => { results := [.lit (.bool false)], args := [d1, d2] }
  | _ => none }
def FnExactVotedInWrongFalsely : Prop := fnExactVotedInRow.holds Try.pinned (OpenSpec.ofChange fnExactVotedInWrong)

/-- 'laws.FnExactWaits': WHATEVER THE INPUT: true; the input reads as it did. -/
def fnExactWaitsSpec : ChangeSpec := { name := "fnExactWaits", fn := fun _ => fun
  | [d] => { results := [.lit (.bool true)], args := [d] }
  | _ => none }
def fnExactWaitsRow : OpenClaim := { program := "ytmibimmjoaobcaa", sum := "3da11c113235cffb94a3a06cc5e17687eabce2b741c10aa9ab557c599d7e050a", func := "loop.example/g00567/laws.FnExactWaits", spec := "fnExactWaits", unfollowed := true, recurses := true, plainKeys := false, apart := false }
def FnExactWaitsSaid : Prop := fnExactWaitsRow.holds Try.pinned (OpenSpec.ofChange fnExactWaitsSpec)

/-- ITS FALSE NEIGHBOUR: 'it returns false'. Refute it at one input. -/
def fnExactWaitsWrong : ChangeSpec := { name := "fnExactWaits", fn := fun _ => fun
  | [d] => { results := [.lit (.bool false)], args := [d] }
  | _ => none }
def FnExactWaitsWrongFalsely : Prop := fnExactWaitsRow.holds Try.pinned (OpenSpec.ofChange fnExactWaitsWrong)

/-- 'laws.FnExactHeardFrom': WHATEVER THE INPUT: true; the input reads as it did. -/
def fnExactHeardFromSpec : ChangeSpec := { name := "fnExactHeardFrom", fn := fun _ => fun
  | [d1, d2] => { results := [.lit (.bool true)], args := [d1, d2] }
  | _ => none }
def fnExactHeardFromRow : OpenClaim := { program := "ytmibimmjoaobcaa", sum := "3da11c113235cffb94a3a06cc5e17687eabce2b741c10aa9ab557c599d7e050a", func := "loop.example/g00567/laws.FnExactHeardFrom", spec := "fnExactHeardFrom", unfollowed := true, recurses := true, plainKeys := false, apart := false }
def FnExactHeardFromSaid : Prop := fnExactHeardFromRow.holds Try.pinned (OpenSpec.ofChange fnExactHeardFromSpec)

/-- ITS FALSE NEIGHBOUR: 'it returns false'. Refute it at one input. -/
def fnExactHeardFromWrong : ChangeSpec := { name := "fnExactHeardFrom", fn := fun _ => fun
  | [d1, d2] => { results := [.lit (.bool false)], args := [d1, d2] }
  | _ => none }
def FnExactHeardFromWrongFalsely : Prop := fnExactHeardFromRow.holds Try.pinned (OpenSpec.ofChange fnExactHeardFromWrong)

/-- 'laws.FnExactJoinView': WHATEVER THE INPUT: true; the input reads as it did. -/
def fnExactJoinViewSpec : ChangeSpec := { name := "fnExactJoinView", fn := fun _ => fun
  | [d] => { results := [.lit (.bool true)], args := [d] }
  | _ => none }
def fnExactJoinViewRow : OpenClaim := { program := "ytmibimmjoaobcaa", sum := "3da11c113235cffb94a3a06cc5e17687eabce2b741c10aa9ab557c599d7e050a", func := "loop.example/g00567/laws.FnExactJoinView", spec := "fnExactJoinView", unfollowed := true, recurses := true, plainKeys := false, apart := false }
def FnExactJoinViewSaid : Prop := fnExactJoinViewRow.holds Try.pinned (OpenSpec.ofChange fnExactJoinViewSpec)

/-- ITS FALSE NEIGHBOUR: 'it returns false'. Refute it at one input. -/
def fnExactJoinViewWrong : ChangeSpec := { name := "fnExactJoinView", fn := fun _ => fun
  | [d] => { results := [.lit (.bool false)], args := [d] }
  | _ => none }
def FnExactJoinViewWrongFalsely : Prop := fnExactJoinViewRow.holds Try.pinned (OpenSpec.ofChange fnExactJoinViewWrong)

/-- 'laws.FnExactReportOf': WHATEVER THE INPUT: true; the input reads as it did. -/
def fnExactReportOfSpec : ChangeSpec := { name := "fnExactReportOf", fn := fun _ => fun
  | [d1, d2] => { results := [.lit (.bool true)], args := [d1, d2] }
  | _ => none }
def fnExactReportOfRow : OpenClaim := { program := "ytmibimmjoaobcaa", sum := "3da11c113235cffb94a3a06cc5e17687eabce2b741c10aa9ab557c599d7e050a", func := "loop.example/g00567/laws.FnExactReportOf", spec := "fnExactReportOf", unfollowed := true, recurses := true, plainKeys := false, apart := false }
def FnExactReportOfSaid : Prop := fnExactReportOfRow.holds Try.pinned (OpenSpec.ofChange fnExactReportOfSpec)

/-- ITS FALSE NEIGHBOUR: 'it returns false'. Refute it at one input. -/
def fnExactReportOfWrong : ChangeSpec := { name := "fnExactReportOf", fn := fun _ => fun
  | [d1, d2] => { results := [.lit (.bool false)], args := [d1, d2] }
  | _ => none }
def FnExactReportOfWrongFalsely : Prop := fnExactReportOfRow.holds Try.pinned (OpenSpec.ofChange fnExactReportOfWrong)

/-- 'laws.FnExactTellOf': WHATEVER THE INPUT: true; the input reads as it did. -/
def fnExactTellOfSpec : ChangeSpec := { name := "fnExactTellOf", fn := fun _ => fun
  | [d1, d2] => { results := [.lit (.bool true)], args := [d1, d2] }
  | _ => none }
def fnExactTellOfRow : OpenClaim := { program := "ytmibimmjoaobcaa", sum := "3da11c113235cffb94a3a06cc5e17687eabce2b741c10aa9ab557c599d7e050a", func := "loop.example/g00567/laws.FnExactTellOf", spec := "fnExactTellOf", unfollowed := true, recurses := true, plainKeys := false, apart := false }
def FnExactTellOfSaid : Prop := fnExactTellOfRow.holds Try.pinned (OpenSpec.ofChange fnExactTellOfSpec)

/-- ITS FALSE NEIGHBOUR: 'it returns false'. Refute it at one input. -/
def fnExactTellOfWrong : ChangeSpec := { name := "fnExactTellOf", fn := fun _ => fun
  | [d1, d2] => { results := [.lit (.bool false)], args := [d1, d2] }
  | _ => none }
def FnExactTellOfWrongFalsely : Prop := fnExactTellOfRow.holds Try.pinned (OpenSpec.ofChange fnExactTellOfWrong)

/- THE SECOND FORM. 'bulk': how many values and letters a reading holds, each counted each time it is reached (what is shared counts as often as it is met; a slice's spare places count too). A statement '..UptoSaid' is the law's where the arguments, and the package variables that the reading takes, are together of bulk at most 1048576: NARROWER than '..Said'. Prove '..Said' where nothing that the law and all that it calls make is longer than what came in: it says more and counts as full. Else prove '..UptoSaid'. A law counts once. -/
mutual
def uptoBulk {H : Type} : DataW H → Nat
  | .lit (.string bytes) => bytes.length + 1
  | .lit _ => 1
  | .nil => 1
  | .ptr d => uptoBulk d + 1
  | .slice elems spare => uptoBulkAll elems + uptoBulkAll spare + 1
  | .agg parts => uptoBulkAll parts + 1
  | .iface _ d => uptoBulk d + 1
  | .map entries => uptoBulkEntries entries + 1
  | .held _ => 1
def uptoBulkAll {H : Type} : List (DataW H) → Nat
  | [] => 0
  | d :: r => uptoBulk d + uptoBulkAll r
def uptoBulkEntries {H : Type} : List (Lit × DataW H) → Nat
  | [] => 0
  | x :: r => uptoBulkEntry x + uptoBulkEntries r
def uptoBulkEntry {H : Type} : Lit × DataW H → Nat
  | (.string bytes, d) => bytes.length + uptoBulk d + 1
  | (_, d) => uptoBulk d + 1
 end
def uptoSmall : (H : Type) → List (DataW H) → Bool := fun _ ds => decide (uptoBulkAll ds ≤ 1048576)
def OpenSpec.upto (s : _root_.Go.ChangeSpec) : _root_.Go.OpenSpec := { _root_.Go.OpenSpec.ofChange s with cond := some uptoSmall }

/-- 'laws.FnExactRepOk', WHERE WHAT IT READS IS OF BULK AT MOST 1048576: true; the input reads as it did. -/
def fnExactRepOkUptoRow : OpenClaim := { program := "ytmibimmjoaobcaa", sum := "3da11c113235cffb94a3a06cc5e17687eabce2b741c10aa9ab557c599d7e050a", func := "loop.example/g00567/laws.FnExactRepOk", spec := "fnExactRepOk", unfollowed := true, recurses := true, plainKeys := false, apart := false, narrowed := true }
def FnExactRepOkUptoSaid : Prop := fnExactRepOkUptoRow.holds Try.pinned (OpenSpec.upto fnExactRepOkSpec)

/-- 'laws.FnExactVotedIn', WHERE WHAT IT READS IS OF BULK AT MOST 1048576: true; the input reads as it did. -/
def fnExactVotedInUptoRow : OpenClaim := { program := "ytmibimmjoaobcaa", sum := "3da11c113235cffb94a3a06cc5e17687eabce2b741c10aa9ab557c599d7e050a", func := "loop.example/g00567/laws.FnExactVotedIn", spec := "fnExactVotedIn", unfollowed := true, recurses := true, plainKeys := false, apart := false, narrowed := true }
def FnExactVotedInUptoSaid : Prop := fnExactVotedInUptoRow.holds Try.pinned (OpenSpec.upto fnExactVotedInSpec)

/-- 'laws.FnExactWaits', WHERE WHAT IT READS IS OF BULK AT MOST 1048576: true; the input reads as it did. -/
def fnExactWaitsUptoRow : OpenClaim := { program := "ytmibimmjoaobcaa", sum := "3da11c113235cffb94a3a06cc5e17687eabce2b741c10aa9ab557c599d7e050a", func := "loop.example/g00567/laws.FnExactWaits", spec := "fnExactWaits", unfollowed := true, recurses := true, plainKeys := false, apart := false, narrowed := true }
def FnExactWaitsUptoSaid : Prop := fnExactWaitsUptoRow.holds Try.pinned (OpenSpec.upto fnExactWaitsSpec)

/-- 'laws.FnExactHeardFrom', WHERE WHAT IT READS IS OF BULK AT MOST 1048576: true; the input reads as it did. -/
def fnExactHeardFromUptoRow : OpenClaim := { program := "ytmibimmjoaobcaa", sum := "3da11c113235cffb94a3a06cc5e17687eabce2b741c10aa9ab557c599d7e050a", func := "loop.example/g00567/laws.FnExactHeardFrom", spec := "fnExactHeardFrom", unfollowed := true, recurses := true, plainKeys := false, apart := false, narrowed := true }
def FnExactHeardFromUptoSaid : Prop := fnExactHeardFromUptoRow.holds Try.pinned (OpenSpec.upto fnExactHeardFromSpec)

/-- 'laws.FnExactJoinView', WHERE WHAT IT READS IS OF BULK AT MOST 1048576: true; the input reads as it did. -/
def fnExactJoinViewUptoRow : OpenClaim := { program := "ytmibimmjoaobcaa", sum := "3da11c113235cffb94a3a06cc5e17687eabce2b741c10aa9ab557c599d7e050a", func := "loop.example/g00567/laws.FnExactJoinView", spec := "fnExactJoinView", unfollowed := true, recurses := true, plainKeys := false, apart := false, narrowed := true }
def FnExactJoinViewUptoSaid : Prop := fnExactJoinViewUptoRow.holds Try.pinned (OpenSpec.upto fnExactJoinViewSpec)

/-- 'laws.FnExactReportOf', WHERE WHAT IT READS IS OF BULK AT MOST 1048576: true; the input reads as it did. -/
def fnExactReportOfUptoRow : OpenClaim := { program := "ytmibimmjoaobcaa", sum := "3da11c113235cffb94a3a06cc5e17687eabce2b741c10aa9ab557c599d7e050a", func := "loop.example/g00567/laws.FnExactReportOf", spec := "fnExactReportOf", unfollowed := true, recurses := true, plainKeys := false, apart := false, narrowed := true }
def FnExactReportOfUptoSaid : Prop := fnExactReportOfUptoRow.holds Try.pinned (OpenSpec.upto fnExactReportOfSpec)

/-- 'laws.FnExactTellOf', WHERE WHAT IT READS IS OF BULK AT MOST 1048576: true; the input reads as it did. -/
def fnExactTellOfUptoRow : OpenClaim := { program := "ytmibimmjoaobcaa", sum := "3da11c113235cffb94a3a06cc5e17687eabce2b741c10aa9ab557c599d7e050a", func := "loop.example/g00567/laws.FnExactTellOf", spec := "fnExactTellOf", unfollowed := true, recurses := true, plainKeys := false, apart := false, narrowed := true }
def FnExactTellOfUptoSaid : Prop := fnExactTellOfUptoRow.holds Try.pinned (OpenSpec.upto fnExactTellOfSpec)

end Rows
end Go.Proofs.Ytmibimmjoaobcaa
