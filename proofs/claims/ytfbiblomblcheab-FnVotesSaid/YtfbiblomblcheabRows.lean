/-
  No cell of these rows narrows 'for every input' (looked for: loops, veiled, ifaces, maps, wideKeys, modest, calm, conditions, laid).
  DERIVED. THE GIVEN ROWS OF THIS SEAT. 11 by the template 'for every input the law returns true; each argument reads behind the call as it read before'; 0 by the template 'total and deterministic' (their statements: YtfbiblomblcheabTotals.lean).
  GIVEN WITH THE SEED: the statements are not yours to turn. If you find one false, say at which input.
  Laid BY PROGRAM, IN A SANDBOX (cutbox-rows.mjs): the forced cells as the released guide's own fill.sh prints them over the translation a849282b056f57ad… (all of the seat's roots in one cut). By AI agents, Wed Nov 11 2026. No macro, syntax, notation, axiom, sorry.
-/
import Derived.Test.YtfbiblomblcheabChecked
import GoSem.Claim
import GoSem.ClaimJoined
import GoSem.ClaimMapViews
import Derived.JoinedTies
import Derived.KernelRfl
namespace Go.Proofs.Ytfbiblomblcheab
/- THE CELL 'sum', in the pinned program and in every row, IS THE sha256 OF THE DUMP (.gsa) THAT YtfbiblomblcheabProg.lean LOADS. Nothing in Lean hashes anything: it is a label: what it is worth is what the hold of that sum in a sandbox is worth. -/
noncomputable def Try.pinned : Pinned := { name := "ytfbiblomblcheab", sum := "a849282b056f57ad0b6a14a100224d4bf624118a9ee59c9d5f96081f7f677f15", checked := Try.checked }
namespace Rows
def none {H : Type} : Left H := { results := [], args := [] }

/-- 'laws.FnVotes': WHATEVER THE INPUT: true; the input reads as it did. -/
def fnVotesSpec : ChangeSpec := { name := "fnVotes", fn := fun _ => fun
  | [d] => { results := [.lit (.bool true)], args := [d] }
  | _ => none }
def fnVotesRow : OpenClaim := { program := "ytfbiblomblcheab", sum := "a849282b056f57ad0b6a14a100224d4bf624118a9ee59c9d5f96081f7f677f15", func := "loop.example/g00567/laws.FnVotes", spec := "fnVotes", unfollowed := true, recurses := true, apart := false }
def FnVotesSaid : Prop := fnVotesRow.holds Try.pinned (OpenSpec.ofChange fnVotesSpec)

/-- ITS FALSE NEIGHBOUR: 'it returns false'. Refute it at one input. -/
def fnVotesWrong : ChangeSpec := { name := "fnVotes", fn := fun _ => fun
  | [d] => { results := [.lit (.bool false)], args := [d] }
  | _ => none }
def FnVotesWrongFalsely : Prop := fnVotesRow.holds Try.pinned (OpenSpec.ofChange fnVotesWrong)

/-- 'laws.FnExactValOk': WHATEVER THE INPUT: true; the input reads as it did. -/
def fnExactValOkSpec : ChangeSpec := { name := "fnExactValOk", fn := fun _ => fun
  | [d] => { results := [.lit (.bool true)], args := [d] }
  | _ => none }
def fnExactValOkRow : OpenClaim := { program := "ytfbiblomblcheab", sum := "a849282b056f57ad0b6a14a100224d4bf624118a9ee59c9d5f96081f7f677f15", func := "loop.example/g00567/laws.FnExactValOk", spec := "fnExactValOk", apart := false }
def FnExactValOkSaid : Prop := fnExactValOkRow.holds Try.pinned (OpenSpec.ofChange fnExactValOkSpec)

/-- ITS FALSE NEIGHBOUR: 'it returns false'. Refute it at one input. -/
def fnExactValOkWrong : ChangeSpec := { name := "fnExactValOk", fn := fun _ => fun
  | [d] => { results := [.lit (.bool false)], args := [d] }
  | _ => none }
def FnExactValOkWrongFalsely : Prop := fnExactValOkRow.holds Try.pinned (OpenSpec.ofChange fnExactValOkWrong)

/-- 'laws.FnExactVotesOk': WHATEVER THE INPUT: true; the input reads as it did. -/
def fnExactVotesOkSpec : ChangeSpec := { name := "fnExactVotesOk", fn := fun _ => fun
  | [d1, d2] => { results := [.lit (.bool true)], args := [d1, d2] }
  | _ => none }
def fnExactVotesOkRow : OpenClaim := { program := "ytfbiblomblcheab", sum := "a849282b056f57ad0b6a14a100224d4bf624118a9ee59c9d5f96081f7f677f15", func := "loop.example/g00567/laws.FnExactVotesOk", spec := "fnExactVotesOk", apart := false }
def FnExactVotesOkSaid : Prop := fnExactVotesOkRow.holds Try.pinned (OpenSpec.ofChange fnExactVotesOkSpec)

/-- ITS FALSE NEIGHBOUR: 'it returns false'. Refute it at one input. -/
def fnExactVotesOkWrong : ChangeSpec := { name := "fnExactVotesOk", fn := fun _ => fun
  | [d1, d2] => { results := [.lit (.bool false)], args := [d1, d2] }
  | _ => none }
def FnExactVotesOkWrongFalsely : Prop := fnExactVotesOkRow.holds Try.pinned (OpenSpec.ofChange fnExactVotesOkWrong)

/-- 'laws.FnExactMsgOk': WHATEVER THE INPUT: true; the input reads as it did. -/
def fnExactMsgOkSpec : ChangeSpec := { name := "fnExactMsgOk", fn := fun _ => fun
  | [d] => { results := [.lit (.bool true)], args := [d] }
  | _ => none }
def fnExactMsgOkRow : OpenClaim := { program := "ytfbiblomblcheab", sum := "a849282b056f57ad0b6a14a100224d4bf624118a9ee59c9d5f96081f7f677f15", func := "loop.example/g00567/laws.FnExactMsgOk", spec := "fnExactMsgOk", apart := false }
def FnExactMsgOkSaid : Prop := fnExactMsgOkRow.holds Try.pinned (OpenSpec.ofChange fnExactMsgOkSpec)

/-- ITS FALSE NEIGHBOUR: 'it returns false'. Refute it at one input. -/
def fnExactMsgOkWrong : ChangeSpec := { name := "fnExactMsgOk", fn := fun _ => fun
  | [d] => { results := [.lit (.bool false)], args := [d] }
  | _ => none }
def FnExactMsgOkWrongFalsely : Prop := fnExactMsgOkRow.holds Try.pinned (OpenSpec.ofChange fnExactMsgOkWrong)

/-- 'laws.FnExactMsgBytes': WHATEVER THE INPUT: true; the input reads as it did. -/
def fnExactMsgBytesSpec : ChangeSpec := { name := "fnExactMsgBytes", fn := fun _ => fun
  | [d] => { results := [.lit (.bool true)], args := [d] }
  | _ => none }
def fnExactMsgBytesRow : OpenClaim := { program := "ytfbiblomblcheab", sum := "a849282b056f57ad0b6a14a100224d4bf624118a9ee59c9d5f96081f7f677f15", func := "loop.example/g00567/laws.FnExactMsgBytes", spec := "fnExactMsgBytes", apart := false }
def FnExactMsgBytesSaid : Prop := fnExactMsgBytesRow.holds Try.pinned (OpenSpec.ofChange fnExactMsgBytesSpec)

/-- ITS FALSE NEIGHBOUR: 'it returns false'. Refute it at one input. -/
def fnExactMsgBytesWrong : ChangeSpec := { name := "fnExactMsgBytes", fn := fun _ => fun
  | [d] => { results := [.lit (.bool false)], args := [d] }
  | _ => none }
def FnExactMsgBytesWrongFalsely : Prop := fnExactMsgBytesRow.holds Try.pinned (OpenSpec.ofChange fnExactMsgBytesWrong)

/-- 'laws.FnExactMsgRead': WHATEVER THE INPUT: true; the input reads as it did. -/
def fnExactMsgReadSpec : ChangeSpec := { name := "fnExactMsgRead", fn := fun _ => fun
  | [d] => { results := [.lit (.bool true)], args := [d] }
  | _ => none }
def fnExactMsgReadRow : OpenClaim := { program := "ytfbiblomblcheab", sum := "a849282b056f57ad0b6a14a100224d4bf624118a9ee59c9d5f96081f7f677f15", func := "loop.example/g00567/laws.FnExactMsgRead", spec := "fnExactMsgRead", unfollowed := true, recurses := true, apart := false }
def FnExactMsgReadSaid : Prop := fnExactMsgReadRow.holds Try.pinned (OpenSpec.ofChange fnExactMsgReadSpec)

/-- ITS FALSE NEIGHBOUR: 'it returns false'. Refute it at one input. -/
def fnExactMsgReadWrong : ChangeSpec := { name := "fnExactMsgRead", fn := fun _ => fun
  | [d] => { results := [.lit (.bool false)], args := [d] }
  | _ => none }
def FnExactMsgReadWrongFalsely : Prop := fnExactMsgReadRow.holds Try.pinned (OpenSpec.ofChange fnExactMsgReadWrong)

/-- 'laws.FnExactMsgCmp': WHATEVER THE INPUT: true; the input reads as it did. -/
def fnExactMsgCmpSpec : ChangeSpec := { name := "fnExactMsgCmp", fn := fun _ => fun
  | [d1, d2] => { results := [.lit (.bool true)], args := [d1, d2] }
  | _ => none }
def fnExactMsgCmpRow : OpenClaim := { program := "ytfbiblomblcheab", sum := "a849282b056f57ad0b6a14a100224d4bf624118a9ee59c9d5f96081f7f677f15", func := "loop.example/g00567/laws.FnExactMsgCmp", spec := "fnExactMsgCmp", inPlace := ["internal/bytealg.Compare"], apart := false }
def FnExactMsgCmpSaid : Prop := fnExactMsgCmpRow.holds Try.pinned (OpenSpec.ofChange fnExactMsgCmpSpec)

/-- ITS FALSE NEIGHBOUR: 'it returns false'. Refute it at one input. -/
def fnExactMsgCmpWrong : ChangeSpec := { name := "fnExactMsgCmp", fn := fun _ => fun
  | [d1, d2] => { results := [.lit (.bool false)], args := [d1, d2] }
  | _ => none }
def FnExactMsgCmpWrongFalsely : Prop := fnExactMsgCmpRow.holds Try.pinned (OpenSpec.ofChange fnExactMsgCmpWrong)

/-- 'laws.FnExactBare': WHATEVER THE INPUT: true; the input reads as it did. -/
def fnExactBareSpec : ChangeSpec := { name := "fnExactBare", fn := fun _ => fun
  | [d1, d2, d3] => { results := [.lit (.bool true)], args := [d1, d2, d3] }
  | _ => none }
def fnExactBareRow : OpenClaim := { program := "ytfbiblomblcheab", sum := "a849282b056f57ad0b6a14a100224d4bf624118a9ee59c9d5f96081f7f677f15", func := "loop.example/g00567/laws.FnExactBare", spec := "fnExactBare", apart := false }
def FnExactBareSaid : Prop := fnExactBareRow.holds Try.pinned (OpenSpec.ofChange fnExactBareSpec)

/-- ITS FALSE NEIGHBOUR: 'it returns false'. Refute it at one input. -/
def fnExactBareWrong : ChangeSpec := { name := "fnExactBare", fn := fun _ => fun
  | [d1, d2, d3] => { results := [.lit (.bool false)], args := [d1, d2, d3] }
  | _ => none }
def FnExactBareWrongFalsely : Prop := fnExactBareRow.holds Try.pinned (OpenSpec.ofChange fnExactBareWrong)

/-- 'laws.FnExactVoteIn': WHATEVER THE INPUT: true; the input reads as it did. -/
def fnExactVoteInSpec : ChangeSpec := { name := "fnExactVoteIn", fn := fun _ => fun
  | [d1, d2] => { results := [.lit (.bool true)], args := [d1, d2] }
  | _ => none }
def fnExactVoteInRow : OpenClaim := { program := "ytfbiblomblcheab", sum := "a849282b056f57ad0b6a14a100224d4bf624118a9ee59c9d5f96081f7f677f15", func := "loop.example/g00567/laws.FnExactVoteIn", spec := "fnExactVoteIn", apart := false }
def FnExactVoteInSaid : Prop := fnExactVoteInRow.holds Try.pinned (OpenSpec.ofChange fnExactVoteInSpec)

/-- ITS FALSE NEIGHBOUR: 'it returns false'. Refute it at one input. -/
def fnExactVoteInWrong : ChangeSpec := { name := "fnExactVoteIn", fn := fun _ => fun
  | [d1, d2] => { results := [.lit (.bool false)], args := [d1, d2] }
  | _ => none }
def FnExactVoteInWrongFalsely : Prop := fnExactVoteInRow.holds Try.pinned (OpenSpec.ofChange fnExactVoteInWrong)

/-- 'laws.FnExactWithVote': WHATEVER THE INPUT: true; the input reads as it did. -/
def fnExactWithVoteSpec : ChangeSpec := { name := "fnExactWithVote", fn := fun _ => fun
  | [d1, d2] => { results := [.lit (.bool true)], args := [d1, d2] }
  | _ => none }
def fnExactWithVoteRow : OpenClaim := { program := "ytfbiblomblcheab", sum := "a849282b056f57ad0b6a14a100224d4bf624118a9ee59c9d5f96081f7f677f15", func := "loop.example/g00567/laws.FnExactWithVote", spec := "fnExactWithVote", apart := false }
def FnExactWithVoteSaid : Prop := fnExactWithVoteRow.holds Try.pinned (OpenSpec.ofChange fnExactWithVoteSpec)

/-- ITS FALSE NEIGHBOUR: 'it returns false'. Refute it at one input. -/
def fnExactWithVoteWrong : ChangeSpec := { name := "fnExactWithVote", fn := fun _ => fun
  | [d1, d2] => { results := [.lit (.bool false)], args := [d1, d2] }
  | _ => none }
def FnExactWithVoteWrongFalsely : Prop := fnExactWithVoteRow.holds Try.pinned (OpenSpec.ofChange fnExactWithVoteWrong)

/-- 'laws.FnExactBoundTo': WHATEVER THE INPUT: true; the input reads as it did. -/
def fnExactBoundToSpec : ChangeSpec := { name := "fnExactBoundTo", fn := fun _ => fun
  | [d] => { results := [.lit (.bool true)], args := [d] }
  | _ => none }
def fnExactBoundToRow : OpenClaim := { program := "ytfbiblomblcheab", sum := "a849282b056f57ad0b6a14a100224d4bf624118a9ee59c9d5f96081f7f677f15", func := "loop.example/g00567/laws.FnExactBoundTo", spec := "fnExactBoundTo", apart := false }
def FnExactBoundToSaid : Prop := fnExactBoundToRow.holds Try.pinned (OpenSpec.ofChange fnExactBoundToSpec)

/-- ITS FALSE NEIGHBOUR: 'it returns false'. Refute it at one input. -/
def fnExactBoundToWrong : ChangeSpec := { name := "fnExactBoundTo", fn := fun _ => fun
  | [d] => { results := [.lit (.bool false)], args := [d] }
  | _ => none }
def FnExactBoundToWrongFalsely : Prop := fnExactBoundToRow.holds Try.pinned (OpenSpec.ofChange fnExactBoundToWrong)

/- THE SECOND FORM. 'bulk': how many values and letters a reading holds, each counted each time it is reached (what is shared counts as often as it is met; a slice's spare places count too). A statement '..UptoSaid' is the law's where the arguments, and the package variables that the reading takes, are together of bulk at most 1048576: NARROWER than '..Said'. Prove '..Said' where nothing that the law and all that it calls make is longer than what came in: it says more and counts as full. Else prove '..UptoSaid'. A law counts once. -/
mutual
def uptoBulk {H : Type} : DataW H → Nat
  | .lit (.string bytes) => bytes.length + 1
  | .lit _ => 1
  | .nil => 1
  | .ptr d => uptoBulk d + 1
  | .slice elems spare => uptoBulkAll elems + uptoBulkAll spare + 1
  | .agg parts => uptoBulkAll parts + 1
  | .iface _ d => uptoBulk d + 1
  | .map entries => uptoBulkEntries entries + 1
  | .held _ => 1
def uptoBulkAll {H : Type} : List (DataW H) → Nat
  | [] => 0
  | d :: r => uptoBulk d + uptoBulkAll r
def uptoBulkEntries {H : Type} : List (Lit × DataW H) → Nat
  | [] => 0
  | x :: r => uptoBulkEntry x + uptoBulkEntries r
def uptoBulkEntry {H : Type} : Lit × DataW H → Nat
  | (.string bytes, d) => bytes.length + uptoBulk d + 1
  | (_, d) => uptoBulk d + 1
 end
def uptoSmall : (H : Type) → List (DataW H) → Bool := fun _ ds => decide (uptoBulkAll ds ≤ 1048576)
def OpenSpec.upto (s : _root_.Go.ChangeSpec) : _root_.Go.OpenSpec := { _root_.Go.OpenSpec.ofChange s with cond := some uptoSmall }

/-- 'laws.FnVotes', WHERE WHAT IT READS IS OF BULK AT MOST 1048576: true; the input reads as it did. -/
def fnVotesUptoRow : OpenClaim := { program := "ytfbiblomblcheab", sum := "a849282b056f57ad0b6a14a100224d4bf624118a9ee59c9d5f96081f7f677f15", func := "loop.example/g00567/laws.FnVotes", spec := "fnVotes", unfollowed := true, recurses := true, apart := false, narrowed := true }
def FnVotesUptoSaid : Prop := fnVotesUptoRow.holds Try.pinned (OpenSpec.upto fnVotesSpec)

/-- 'laws.FnExactValOk', WHERE WHAT IT READS IS OF BULK AT MOST 1048576: true; the input reads as it did. -/
def fnExactValOkUptoRow : OpenClaim := { program := "ytfbiblomblcheab", sum := "a849282b056f57ad0b6a14a100224d4bf624118a9ee59c9d5f96081f7f677f15", func := "loop.example/g00567/laws.FnExactValOk", spec := "fnExactValOk", apart := false, narrowed := true }
def FnExactValOkUptoSaid : Prop := fnExactValOkUptoRow.holds Try.pinned (OpenSpec.upto fnExactValOkSpec)

/-- 'laws.FnExactVotesOk', WHERE WHAT IT READS IS OF BULK AT MOST 1048576: true; the input reads as it did. -/
def fnExactVotesOkUptoRow : OpenClaim := { program := "ytfbiblomblcheab", sum := "a849282b056f57ad0b6a14a100224d4bf624118a9ee59c9d5f96081f7f677f15", func := "loop.example/g00567/laws.FnExactVotesOk", spec := "fnExactVotesOk", apart := false, narrowed := true }
def FnExactVotesOkUptoSaid : Prop := fnExactVotesOkUptoRow.holds Try.pinned (OpenSpec.upto fnExactVotesOkSpec)

/-- 'laws.FnExactMsgOk', WHERE WHAT IT READS IS OF BULK AT MOST 1048576: true; the input reads as it did. -/
def fnExactMsgOkUptoRow : OpenClaim := { program := "ytfbiblomblcheab", sum := "a849282b056f57ad0b6a14a100224d4bf624118a9ee59c9d5f96081f7f677f15", func := "loop.example/g00567/laws.FnExactMsgOk", spec := "fnExactMsgOk", apart := false, narrowed := true }
def FnExactMsgOkUptoSaid : Prop := fnExactMsgOkUptoRow.holds Try.pinned (OpenSpec.upto fnExactMsgOkSpec)

/-- 'laws.FnExactMsgBytes', WHERE WHAT IT READS IS OF BULK AT MOST 1048576: true; the input reads as it did. -/
def fnExactMsgBytesUptoRow : OpenClaim := { program := "ytfbiblomblcheab", sum := "a849282b056f57ad0b6a14a100224d4bf624118a9ee59c9d5f96081f7f677f15", func := "loop.example/g00567/laws.FnExactMsgBytes", spec := "fnExactMsgBytes", apart := false, narrowed := true }
def FnExactMsgBytesUptoSaid : Prop := fnExactMsgBytesUptoRow.holds Try.pinned (OpenSpec.upto fnExactMsgBytesSpec)

/-- 'laws.FnExactMsgRead', WHERE WHAT IT READS IS OF BULK AT MOST 1048576: true; the input reads as it did. -/
def fnExactMsgReadUptoRow : OpenClaim := { program := "ytfbiblomblcheab", sum := "a849282b056f57ad0b6a14a100224d4bf624118a9ee59c9d5f96081f7f677f15", func := "loop.example/g00567/laws.FnExactMsgRead", spec := "fnExactMsgRead", unfollowed := true, recurses := true, apart := false, narrowed := true }
def FnExactMsgReadUptoSaid : Prop := fnExactMsgReadUptoRow.holds Try.pinned (OpenSpec.upto fnExactMsgReadSpec)

/-- 'laws.FnExactMsgCmp', WHERE WHAT IT READS IS OF BULK AT MOST 1048576: true; the input reads as it did. -/
def fnExactMsgCmpUptoRow : OpenClaim := { program := "ytfbiblomblcheab", sum := "a849282b056f57ad0b6a14a100224d4bf624118a9ee59c9d5f96081f7f677f15", func := "loop.example/g00567/laws.FnExactMsgCmp", spec := "fnExactMsgCmp", inPlace := ["internal/bytealg.Compare"], apart := false, narrowed := true }
def FnExactMsgCmpUptoSaid : Prop := fnExactMsgCmpUptoRow.holds Try.pinned (OpenSpec.upto fnExactMsgCmpSpec)

/-- 'laws.FnExactBare', WHERE WHAT IT READS IS OF BULK AT MOST 1048576: true; the input reads as it did. -/
def fnExactBareUptoRow : OpenClaim := { program := "ytfbiblomblcheab", sum := "a849282b056f57ad0b6a14a100224d4bf624118a9ee59c9d5f96081f7f677f15", func := "loop.example/g00567/laws.FnExactBare", spec := "fnExactBare", apart := false, narrowed := true }
def FnExactBareUptoSaid : Prop := fnExactBareUptoRow.holds Try.pinned (OpenSpec.upto fnExactBareSpec)

/-- 'laws.FnExactVoteIn', WHERE WHAT IT READS IS OF BULK AT MOST 1048576: true; the input reads as it did. -/
def fnExactVoteInUptoRow : OpenClaim := { program := "ytfbiblomblcheab", sum := "a849282b056f57ad0b6a14a100224d4bf624118a9ee59c9d5f96081f7f677f15", func := "loop.example/g00567/laws.FnExactVoteIn", spec := "fnExactVoteIn", apart := false, narrowed := true }
def FnExactVoteInUptoSaid : Prop := fnExactVoteInUptoRow.holds Try.pinned (OpenSpec.upto fnExactVoteInSpec)

/-- 'laws.FnExactWithVote', WHERE WHAT IT READS IS OF BULK AT MOST 1048576: true; the input reads as it did. -/
def fnExactWithVoteUptoRow : OpenClaim := { program := "ytfbiblomblcheab", sum := "a849282b056f57ad0b6a14a100224d4bf624118a9ee59c9d5f96081f7f677f15", func := "loop.example/g00567/laws.FnExactWithVote", spec := "fnExactWithVote", apart := false, narrowed := true }
def FnExactWithVoteUptoSaid : Prop := fnExactWithVoteUptoRow.holds Try.pinned (OpenSpec.upto fnExactWithVoteSpec)

/-- 'laws.FnExactBoundTo', WHERE WHAT IT READS IS OF BULK AT MOST 1048576: true; the input reads as it did. -/
def fnExactBoundToUptoRow : OpenClaim := { program := "ytfbiblomblcheab", sum := "a849282b056f57ad0b6a14a100224d4bf624118a9ee59c9d5f96081f7f677f15", func := "loop.example/g00567/laws.FnExactBoundTo", spec := "fnExactBoundTo", apart := false, narrowed := true }
def FnExactBoundToUptoSaid : Prop := fnExactBoundToUptoRow.holds Try.pinned (OpenSpec.upto fnExactBoundToSpec)

end Rows
end Go.Proofs.Ytfbiblomblcheab
