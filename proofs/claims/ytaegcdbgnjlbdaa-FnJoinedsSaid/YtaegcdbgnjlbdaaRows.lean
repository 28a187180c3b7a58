/-
  No cell of these rows narrows 'for every input' (looked for: loops, veiled, ifaces, maps, wideKeys, modest, calm, conditions, laid).
  DERIVED. THE GIVEN ROWS OF THIS SEAT. 6 by the template 'for every input the law returns true; each argument reads behind the call as it read before'; 0 by the template 'total and deterministic' (their statements: YtaegcdbgnjlbdaaTotals.lean).
  GIVEN WITH THE SEED: the statements are not yours to turn. If you find one false, say at which input.
  Laid BY PROGRAM, IN A SANDBOX (cutbox-rows.mjs): the forced cells as the released guide's own fill.sh prints them over the translation 2a7c6fff6d73943e… (all of the seat's roots in one cut). By AI agents, Wed Nov 11 2026. No macro, syntax, notation, axiom, sorry.
-/
import Derived.Test.YtaegcdbgnjlbdaaChecked
import GoSem.Claim
import GoSem.ClaimJoined
import GoSem.ClaimMapViews
import Derived.JoinedTies
import Derived.KernelRfl
namespace Go.Proofs.Ytaegcdbgnjlbdaa
/- THE CELL 'sum', in the pinned program and in every row, IS THE sha256 OF THE DUMP (.gsa) THAT YtaegcdbgnjlbdaaProg.lean LOADS. Nothing in Lean hashes anything: it is a label: what it is worth is what the hold of that sum in a sandbox is worth. -/
noncomputable def Try.pinned : Pinned := { name := "ytaegcdbgnjlbdaa", sum := "2a7c6fff6d73943e15e35e3bccbfb86ed5e8b688c3ca5b215f62bf1e568c689d", checked := Try.checked }
namespace Rows
def none {H : Type} : Left H := { results := [], args := [] }

/-- 'laws.FnWiths': WHATEVER THE INPUT: true; the input reads as it did. -/
def fnWithsSpec : ChangeSpec := { name := "fnWiths", fn := fun _ => fun
  | [d] => { results := [.lit (.bool true)], args := [d] }
  | _ => none }
def fnWithsRow : OpenClaim := { program := "ytaegcdbgnjlbdaa", sum := "2a7c6fff6d73943e15e35e3bccbfb86ed5e8b688c3ca5b215f62bf1e568c689d", func := "loop.example/g00567/laws.FnWiths", spec := "fnWiths", unfollowed := true, recurses := true, plainKeys := false, apart := false }
def FnWithsSaid : Prop := fnWithsRow.holds Try.pinned (OpenSpec.ofChange fnWithsSpec)

/-- ITS FALSE NEIGHBOUR: 'it returns false'. Refute it at one input. -/
def fnWithsWrong : ChangeSpec := { name := "fnWiths", fn := fun _ => fun
  | [d] => { results := [.lit (.bool false)], args := [d] }
  | _ => none }
def FnWithsWrongFalsely : Prop := fnWithsRow.holds Try.pinned (OpenSpec.ofChange fnWithsWrong)

/-- 'laws.FnBares': WHATEVER THE INPUT: true; the input reads as it did. -/
def fnBaresSpec : ChangeSpec := { name := "fnBares", fn := fun _ => fun
  | [d] => { results := [.lit (.bool true)], args := [d] }
  | _ => none }
def fnBaresRow : OpenClaim := { program := "ytaegcdbgnjlbdaa", sum := "2a7c6fff6d73943e15e35e3bccbfb86ed5e8b688c3ca5b215f62bf1e568c689d", func := "loop.example/g00567/laws.FnBares", spec := "fnBares", unfollowed := true, recurses := true, plainKeys := false, apart := false }
def FnBaresSaid : Prop := fnBaresRow.holds Try.pinned (OpenSpec.ofChange fnBaresSpec)

/-- ITS FALSE NEIGHBOUR: 'it returns false'. Refute it at one input. -/
def fnBaresWrong : ChangeSpec := { name := "fnBares", fn := fun _ => fun
  | [d] => { results := [.lit (.bool false)], args := [d] }
  | _ => none }
def FnBaresWrongFalsely : Prop := fnBaresRow.holds Try.pinned (OpenSpec.ofChange fnBaresWrong)

/-- 'laws.FnVoters': WHATEVER THE INPUT: true; the input reads as it did. -/
def fnVotersSpec : ChangeSpec := { name := "fnVoters", fn := fun _ => fun
  | [d] => { results := [.lit (.bool true)], args := [d] }
  | _ => none }
def fnVotersRow : OpenClaim := { program := "ytaegcdbgnjlbdaa", sum := "2a7c6fff6d73943e15e35e3bccbfb86ed5e8b688c3ca5b215f62bf1e568c689d", func := "loop.example/g00567/laws.FnVoters", spec := "fnVoters", plainKeys := false, apart := false }
def FnVotersSaid : Prop := fnVotersRow.holds Try.pinned (OpenSpec.ofChange fnVotersSpec)

/-- ITS FALSE NEIGHBOUR: 'it returns false'. Refute it at one input. -/
def fnVotersWrong : ChangeSpec := { name := "fnVoters", fn := fun _ => fun
  | [d] => { results := [.lit (.bool false)], args := [d] }
  | _ => none }
def FnVotersWrongFalsely : Prop := fnVotersRow.holds Try.pinned (OpenSpec.ofChange fnVotersWrong)

/-- 'laws.FnViews': WHATEVER THE INPUT: true; the input reads as it did. -/
def fnViewsSpec : ChangeSpec := { name := "fnViews", fn := fun _ => fun
  | [d] => { results := [.lit (.bool true)], args := [d] }
  | _ => none }
def fnViewsRow : OpenClaim := { program := "ytaegcdbgnjlbdaa", sum := "2a7c6fff6d73943e15e35e3bccbfb86ed5e8b688c3ca5b215f62bf1e568c689d", func := "loop.example/g00567/laws.FnViews", spec := "fnViews", plainKeys := false, apart := false }
def FnViewsSaid : Prop := fnViewsRow.holds Try.pinned (OpenSpec.ofChange fnViewsSpec)

/-- ITS FALSE NEIGHBOUR: 'it returns false'. Refute it at one input. -/
def fnViewsWrong : ChangeSpec := { name := "fnViews", fn := fun _ => fun
  | [d] => { results := [.lit (.bool false)], args := [d] }
  | _ => none }
def FnViewsWrongFalsely : Prop := fnViewsRow.holds Try.pinned (OpenSpec.ofChange fnViewsWrong)

/-- 'laws.FnJoineds': WHATEVER THE INPUT: true; the input reads as it did. -/
def fnJoinedsSpec : ChangeSpec := { name := "fnJoineds", fn := fun _ => fun
  | [d] => { results := [.lit (.bool true)], args := [d] }
  | _ => none }
def fnJoinedsRow : OpenClaim := { program := "ytaegcdbgnjlbdaa", sum := "2a7c6fff6d73943e15e35e3bccbfb86ed5e8b688c3ca5b215f62bf1e568c689d", func := "loop.example/g00567/laws.FnJoineds", spec := "fnJoineds", plainKeys := false, apart := false }
def FnJoinedsSaid : Prop := fnJoinedsRow.holds Try.pinned (OpenSpec.ofChange fnJoinedsSpec)

/-- ITS FALSE NEIGHBOUR: 'it returns false'. Refute it at one input. -/
def fnJoinedsWrong : ChangeSpec := { name := "fnJoineds", fn := fun _ => fun
  | [d] => { results := [.lit (.bool false)], args := [d] }
  | _ => none }
def FnJoinedsWrongFalsely : Prop := fnJoinedsRow.holds Try.pinned (OpenSpec.ofChange fnJoinedsWrong)

/-- 'laws.FnOpens': WHATEVER THE INPUT: true; the input reads as it did. -/
def fnOpensSpec : ChangeSpec := { name := "fnOpens", fn := fun _ => fun
  | [d] => { results := [.lit (.bool true)], args := [d] }
  | _ => none }
def fnOpensRow : OpenClaim := { program := "ytaegcdbgnjlbdaa", sum := "2a7c6fff6d73943e15e35e3bccbfb86ed5e8b688c3ca5b215f62bf1e568c689d", func := "loop.example/g00567/laws.FnOpens", spec := "fnOpens", unfollowed := true, recurses := true, plainKeys := false, apart := false }
def FnOpensSaid : Prop := fnOpensRow.holds Try.pinned (OpenSpec.ofChange fnOpensSpec)

/-- ITS FALSE NEIGHBOUR: 'it returns false'. Refute it at one input. -/
def fnOpensWrong : ChangeSpec := { name := "fnOpens", fn := fun _ => fun
  | [d] => { results := [.lit (.bool false)], args := [d] }
  | _ => none }
def FnOpensWrongFalsely : Prop := fnOpensRow.holds Try.pinned (OpenSpec.ofChange fnOpensWrong)

/- THE SECOND FORM. 'bulk': how many values and letters a reading holds, each counted each time it is reached (what is shared counts as often as it is met; a slice's spare places count too). A statement '..UptoSaid' is the law's where the arguments, and the package variables that the reading takes, are together of bulk at most 1048576: NARROWER than '..Said'. Prove '..Said' where nothing that the law and all that it calls make is longer than what came in: it says more and counts as full. Else prove '..UptoSaid'. A law counts once. -/
mutual
def uptoBulk {H : Type} : DataW H → Nat
  | .lit (.string bytes) => bytes.length + 1
  | .lit _ => 1
  | .nil => 1
  | .ptr d => uptoBulk d + 1
  | .slice elems spare => uptoBulkAll elems + uptoBulkAll spare + 1
  | .agg parts => uptoBulkAll parts + 1
  | .iface _ d => uptoBulk d + 1
  | .map entries => uptoBulkEntries entries + 1
  | .held _ => 1
def uptoBulkAll {H : Type} : List (DataW H) → Nat
  | [] => 0
  | d :: r => uptoBulk d + uptoBulkAll r
def uptoBulkEntries {H : Type} : List (Lit × DataW H) → Nat
  | [] => 0
  | x :: r => uptoBulkEntry x + uptoBulkEntries r
def uptoBulkEntry {H : Type} : Lit × DataW H → Nat
  | (.string bytes, d) => bytes.length + uptoBulk d + 1
  | (_, d) => uptoBulk d + 1
 end
def uptoSmall : (H : Type) → List (DataW H) → Bool := fun _ ds => decide (uptoBulkAll ds ≤ 1048576)
def OpenSpec.upto (s : _root_.Go.ChangeSpec) : _root_.Go.OpenSpec := { _root_.Go.OpenSpec.ofChange s with cond := some uptoSmall }

/-- 'laws.FnWiths', WHERE WHAT IT READS IS OF BULK AT MOST 1048576: true; the input reads as it did. -/
def fnWithsUptoRow : OpenClaim := { program := "ytaegcdbgnjlbdaa", sum := "2a7c6fff6d73943e15e35e3bccbfb86ed5e8b688c3ca5b215f62bf1e568c689d", func := "loop.example/g00567/laws.FnWiths", spec := "fnWiths", unfollowed := true, recurses := true, plainKeys := false, apart := false, narrowed := true }
def FnWithsUptoSaid : Prop := fnWithsUptoRow.holds Try.pinned (OpenSpec.upto fnWithsSpec)

/-- 'laws.FnBares', WHERE WHAT IT READS IS OF BULK AT MOST 1048576: true; the input reads as it did. -/
def fnBaresUptoRow : OpenClaim := { program := "ytaegcdbgnjlbdaa", sum := "2a7c6fff6d73943e15e35e3bccbfb86ed5e8b688c3ca5b215f62bf1e568c689d", func := "loop.example/g00567/laws.FnBares", spec := "fnBares", unfollowed := true, recurses := true, plainKeys := false, apart := false, narrowed := true }
def FnBaresUptoSaid : Prop := fnBaresUptoRow.holds Try.pinned (OpenSpec.upto fnBaresSpec)

/-- 'laws.FnVoters', WHERE WHAT IT READS IS OF BULK AT MOST 1048576: true; the input reads as it did. -/
def fnVotersUptoRow : OpenClaim := { program := "ytaegcdbgnjlbdaa", sum := "2a7c6fff6d73943e15e35e3bccbfb86ed5e8b688c3ca5b215f62bf1e568c689d", func := "loop.example/g00567/laws.FnVoters", spec := "fnVoters", plainKeys := false, apart := false, narrowed := true }
def FnVotersUptoSaid : Prop := fnVotersUptoRow.holds Try.pinned (OpenSpec.upto fnVotersSpec)

/-- 'laws.FnViews', WHERE WHAT IT READS IS OF BULK AT MOST 1048576: true; the input reads as it did. -/
def fnViewsUptoRow : OpenClaim := { program := "ytaegcdbgnjlbdaa", sum := "2a7c6fff6d73943e15e35e3bccbfb86ed5e8b688c3ca5b215f62bf1e568c689d", func := "loop.example/g00567/laws.FnViews", spec := "fnViews", plainKeys := false, apart := false, narrowed := true }
def FnViewsUptoSaid : Prop := fnViewsUptoRow.holds Try.pinned (OpenSpec.upto fnViewsSpec)

/-- 'laws.FnJoineds', WHERE WHAT IT READS IS OF BULK AT MOST 1048576: true; the input reads as it did. -/
def fnJoinedsUptoRow : OpenClaim := { program := "ytaegcdbgnjlbdaa", sum := "2a7c6fff6d73943e15e35e3bccbfb86ed5e8b688c3ca5b215f62bf1e568c689d", func := "loop.example/g00567/laws.FnJoineds", spec := "fnJoineds", plainKeys := false, apart := false, narrowed := true }
def FnJoinedsUptoSaid : Prop := fnJoinedsUptoRow.holds Try.pinned (OpenSpec.upto fnJoinedsSpec)

/-- 'laws.FnOpens', WHERE WHAT IT READS IS OF BULK AT MOST 1048576: true; the input reads as it did. -/
def fnOpensUptoRow : OpenClaim := { program := "ytaegcdbgnjlbdaa", sum := "2a7c6fff6d73943e15e35e3bccbfb86ed5e8b688c3ca5b215f62bf1e568c689d", func := "loop.example/g00567/laws.FnOpens", spec := "fnOpens", unfollowed := true, recurses := true, plainKeys := false, apart := false, narrowed := true }
def FnOpensUptoSaid : Prop := fnOpensUptoRow.holds Try.pinned (OpenSpec.upto fnOpensSpec)

end Rows
end Go.Proofs.Ytaegcdbgnjlbdaa
