/-
  No cell of these rows narrows 'for every input' (looked for: loops, veiled, ifaces, maps, wideKeys, modest, calm, conditions, laid).
  DERIVED. THE GIVEN ROWS OF THIS SEAT. 17 by the template 'for every input the law returns true; each argument reads behind the call as it read before'; 0 by the template 'total and deterministic' (their statements: YtfbiblomblcheaaTotals.lean).
  GIVEN WITH THE SEED: the statements are not yours to turn. If you find one false, say at which input.
  Laid BY PROGRAM, IN A SANDBOX (cutbox-rows.mjs): the forced cells as the released guide's own fill.sh prints them over the translation 4365762cf1d4572a… (all of the seat's roots in one cut). By AI agents, Wed Nov 11 2026. No macro, syntax, notation, axiom, sorry.
-/
import Derived.Test.YtfbiblomblcheaaChecked
import GoSem.Claim
import GoSem.ClaimJoined
import GoSem.ClaimMapViews
import Derived.JoinedTies
import Derived.KernelRfl
namespace Go.Proofs.Ytfbiblomblcheaa
/- THE CELL 'sum', in the pinned program and in every row, IS THE sha256 OF THE DUMP (.gsa) THAT YtfbiblomblcheaaProg.lean LOADS. Nothing in Lean hashes anything: it is a label: what it is worth is what the hold of that sum in a sandbox is worth. -/
noncomputable def Try.pinned : Pinned := { name := "ytfbiblomblcheaa", sum := "4365762cf1d4572a1e48e29b3bfc6e1db250920b39b484ccc8e1467f96ec5fb6", checked := Try.checked }
namespace Rows
def none {H : Type} : Left H := { results := [], args := [] }

/-- 'laws.FnSizes': WHATEVER THE INPUT: true; the input reads as it did. -/
def fnSizesSpec : ChangeSpec := { name := "fnSizes", fn := fun _ => fun
  | [d] => { results := [.lit (.bool true)], args := [d] }
  | _ => none }
def fnSizesRow : OpenClaim := { program := "ytfbiblomblcheaa", sum := "4365762cf1d4572a1e48e29b3bfc6e1db250920b39b484ccc8e1467f96ec5fb6", func := "loop.example/g00567/laws.FnSizes", spec := "fnSizes", plainKeys := false, apart := false }
def FnSizesSaid : Prop := fnSizesRow.holds Try.pinned (OpenSpec.ofChange fnSizesSpec)

/-- ITS FALSE NEIGHBOUR: 'it returns false'. Refute it at one input. -/
def fnSizesWrong : ChangeSpec := { name := "fnSizes", fn := fun _ => fun
  | [d] => { results := [.lit (.bool false)], args := [d] }
  | _ => none }
def FnSizesWrongFalsely : Prop := fnSizesRow.holds Try.pinned (OpenSpec.ofChange fnSizesWrong)

/-- 'laws.FnTallies': WHATEVER THE INPUT: true; the input reads as it did. -/
def fnTalliesSpec : ChangeSpec := { name := "fnTallies", fn := fun _ => fun
  | [d] => { results := [.lit (.bool true)], args := [d] }
  | _ => none }
def fnTalliesRow : OpenClaim := { program := "ytfbiblomblcheaa", sum := "4365762cf1d4572a1e48e29b3bfc6e1db250920b39b484ccc8e1467f96ec5fb6", func := "loop.example/g00567/laws.FnTallies", spec := "fnTallies", plainKeys := false, apart := false }
def FnTalliesSaid : Prop := fnTalliesRow.holds Try.pinned (OpenSpec.ofChange fnTalliesSpec)

/-- ITS FALSE NEIGHBOUR: 'it returns false'. Refute it at one input. -/
def fnTalliesWrong : ChangeSpec := { name := "fnTallies", fn := fun _ => fun
  | [d] => { results := [.lit (.bool false)], args := [d] }
  | _ => none }
def FnTalliesWrongFalsely : Prop := fnTalliesRow.holds Try.pinned (OpenSpec.ofChange fnTalliesWrong)

/-- 'laws.FnWinners': WHATEVER THE INPUT: true; the input reads as it did. -/
def fnWinnersSpec : ChangeSpec := { name := "fnWinners", fn := fun _ => fun
  | [d] => { results := [.lit (.bool true)], args := [d] }
  | _ => none }
def fnWinnersRow : OpenClaim := { program := "ytfbiblomblcheaa", sum := "4365762cf1d4572a1e48e29b3bfc6e1db250920b39b484ccc8e1467f96ec5fb6", func := "loop.example/g00567/laws.FnWinners", spec := "fnWinners", unfollowed := true, recurses := true, plainKeys := false, apart := false }
def FnWinnersSaid : Prop := fnWinnersRow.holds Try.pinned (OpenSpec.ofChange fnWinnersSpec)

/-- ITS FALSE NEIGHBOUR: 'it returns false'. Refute it at one input. -/
def fnWinnersWrong : ChangeSpec := { name := "fnWinners", fn := fun _ => fun
  | [d] => { results := [.lit (.bool false)], args := [d] }
  | _ => none }
def FnWinnersWrongFalsely : Prop := fnWinnersRow.holds Try.pinned (OpenSpec.ofChange fnWinnersWrong)

/-- 'laws.FnExactSizeOk': WHATEVER THE INPUT: true; the input reads as it did. -/
def fnExactSizeOkSpec : ChangeSpec := { name := "fnExactSizeOk", fn := fun _ => fun
  | [d] => { results := [.lit (.bool true)], args := [d] }
  | _ => none }
def fnExactSizeOkRow : OpenClaim := { program := "ytfbiblomblcheaa", sum := "4365762cf1d4572a1e48e29b3bfc6e1db250920b39b484ccc8e1467f96ec5fb6", func := "loop.example/g00567/laws.FnExactSizeOk", spec := "fnExactSizeOk", plainKeys := false, apart := false }
def FnExactSizeOkSaid : Prop := fnExactSizeOkRow.holds Try.pinned (OpenSpec.ofChange fnExactSizeOkSpec)

/-- ITS FALSE NEIGHBOUR: 'it returns false'. Refute it at one input. -/
def fnExactSizeOkWrong : ChangeSpec := { name := "fnExactSizeOk", fn := fun _ => fun
  | [d] => { results := [.lit (.bool false)], args := [d] }
  | _ => none }
def FnExactSizeOkWrongFalsely : Prop := fnExactSizeOkRow.holds Try.pinned (OpenSpec.ofChange fnExactSizeOkWrong)

/-- 'laws.FnExactFaults': WHATEVER THE INPUT: true; the input reads as it did. -/
def fnExactFaultsSpec : ChangeSpec := { name := "fnExactFaults", fn := fun _ => fun
  | [d] => { results := [.lit (.bool true)], args := [d] }
  | _ => none }
def fnExactFaultsRow : OpenClaim := { program := "ytfbiblomblcheaa", sum := "4365762cf1d4572a1e48e29b3bfc6e1db250920b39b484ccc8e1467f96ec5fb6", func := "loop.example/g00567/laws.FnExactFaults", spec := "fnExactFaults", plainKeys := false, apart := false }
def FnExactFaultsSaid : Prop := fnExactFaultsRow.holds Try.pinned (OpenSpec.ofChange fnExactFaultsSpec)

/-- ITS FALSE NEIGHBOUR: 'it returns false'. Refute it at one input. -/
def fnExactFaultsWrong : ChangeSpec := { name := "fnExactFaults", fn := fun _ => fun
  | [d] => { results := [.lit (.bool false)], args := [d] }
  | _ => none }
def FnExactFaultsWrongFalsely : Prop := fnExactFaultsRow.holds Try.pinned (OpenSpec.ofChange fnExactFaultsWrong)

/-- 'laws.FnExactStrong': WHATEVER THE INPUT: true; the input reads as it did. -/
def fnExactStrongSpec : ChangeSpec := { name := "fnExactStrong", fn := fun _ => fun
  | [d] => { results := [.lit (.bool true)], args := [d] }
  | _ => none }
def fnExactStrongRow : OpenClaim := { program := "ytfbiblomblcheaa", sum := "4365762cf1d4572a1e48e29b3bfc6e1db250920b39b484ccc8e1467f96ec5fb6", func := "loop.example/g00567/laws.FnExactStrong", spec := "fnExactStrong", plainKeys := false, apart := false }
def FnExactStrongSaid : Prop := fnExactStrongRow.holds Try.pinned (OpenSpec.ofChange fnExactStrongSpec)

/-- ITS FALSE NEIGHBOUR: 'it returns false'. Refute it at one input. -/
def fnExactStrongWrong : ChangeSpec := { name := "fnExactStrong", fn := fun _ => fun
  | [d] => { results := [.lit (.bool false)], args := [d] }
  | _ => none }
def FnExactStrongWrongFalsely : Prop := fnExactStrongRow.holds Try.pinned (OpenSpec.ofChange fnExactStrongWrong)

/-- 'laws.FnExactWeak': WHATEVER THE INPUT: true; the input reads as it did. -/
def fnExactWeakSpec : ChangeSpec := { name := "fnExactWeak", fn := fun _ => fun
  | [d] => { results := [.lit (.bool true)], args := [d] }
  | _ => none }
def fnExactWeakRow : OpenClaim := { program := "ytfbiblomblcheaa", sum := "4365762cf1d4572a1e48e29b3bfc6e1db250920b39b484ccc8e1467f96ec5fb6", func := "loop.example/g00567/laws.FnExactWeak", spec := "fnExactWeak", plainKeys := false, apart := false }
def FnExactWeakSaid : Prop := fnExactWeakRow.holds Try.pinned (OpenSpec.ofChange fnExactWeakSpec)

/-- ITS FALSE NEIGHBOUR: 'it returns false'. Refute it at one input. -/
def fnExactWeakWrong : ChangeSpec := { name := "fnExactWeak", fn := fun _ => fun
  | [d] => { results := [.lit (.bool false)], args := [d] }
  | _ => none }
def FnExactWeakWrongFalsely : Prop := fnExactWeakRow.holds Try.pinned (OpenSpec.ofChange fnExactWeakWrong)

/-- 'laws.FnExactTallyOk': WHATEVER THE INPUT: true; the input reads as it did. -/
def fnExactTallyOkSpec : ChangeSpec := { name := "fnExactTallyOk", fn := fun _ => fun
  | [d] => { results := [.lit (.bool true)], args := [d] }
  | _ => none }
def fnExactTallyOkRow : OpenClaim := { program := "ytfbiblomblcheaa", sum := "4365762cf1d4572a1e48e29b3bfc6e1db250920b39b484ccc8e1467f96ec5fb6", func := "loop.example/g00567/laws.FnExactTallyOk", spec := "fnExactTallyOk", plainKeys := false, apart := false }
def FnExactTallyOkSaid : Prop := fnExactTallyOkRow.holds Try.pinned (OpenSpec.ofChange fnExactTallyOkSpec)

/-- ITS FALSE NEIGHBOUR: 'it returns false'. Refute it at one input. -/
def fnExactTallyOkWrong : ChangeSpec := { name := "fnExactTallyOk", fn := fun _ => fun
  | [d] => { results := [.lit (.bool false)], args := [d] }
  | _ => none }
def FnExactTallyOkWrongFalsely : Prop := fnExactTallyOkRow.holds Try.pinned (OpenSpec.ofChange fnExactTallyOkWrong)

/-- 'laws.FnExactTallyAdd': WHATEVER THE INPUT: true; the input reads as it did. -/
def fnExactTallyAddSpec : ChangeSpec := { name := "fnExactTallyAdd", fn := fun _ => fun
  | [d1, d2] => { results := [.lit (.bool true)], args := [d1, d2] }
  | _ => none }
def fnExactTallyAddRow : OpenClaim := { program := "ytfbiblomblcheaa", sum := "4365762cf1d4572a1e48e29b3bfc6e1db250920b39b484ccc8e1467f96ec5fb6", func := "loop.example/g00567/laws.FnExactTallyAdd", spec := "fnExactTallyAdd", plainKeys := false, apart := false }
def FnExactTallyAddSaid : Prop := fnExactTallyAddRow.holds Try.pinned (OpenSpec.ofChange fnExactTallyAddSpec)

/-- ITS FALSE NEIGHBOUR: 'it returns false'. Refute it at one input. -/
def fnExactTallyAddWrong : ChangeSpec := { name := "fnExactTallyAdd", fn := fun _ => fun
  | [d1, d2] => { results := [.lit (.bool false)], args := [d1, d2] }
  | _ => none }
def FnExactTallyAddWrongFalsely : Prop := fnExactTallyAddRow.holds Try.pinned (OpenSpec.ofChange fnExactTallyAddWrong)

/-- 'laws.FnExactCount': WHATEVER THE INPUT: true; the input reads as it did. -/
def fnExactCountSpec : ChangeSpec := { name := "fnExactCount", fn := fun _ => fun
  | [d1, d2, d3] => { results := [.lit (.bool true)], args := [d1, d2, d3] }
  | _ => none }
def fnExactCountRow : OpenClaim := { program := "ytfbiblomblcheaa", sum := "4365762cf1d4572a1e48e29b3bfc6e1db250920b39b484ccc8e1467f96ec5fb6", func := "loop.example/g00567/laws.FnExactCount", spec := "fnExactCount", plainKeys := false, apart := false }
def FnExactCountSaid : Prop := fnExactCountRow.holds Try.pinned (OpenSpec.ofChange fnExactCountSpec)

/-- ITS FALSE NEIGHBOUR: 'it returns false'. Refute it at one input. -/
def fnExactCountWrong : ChangeSpec := { name := "fnExactCount", fn := fun _ => fun
  | [d1, d2, d3] => { results := [.lit (.bool false)], args := [d1, d2, d3] }
  | _ => none }
def FnExactCountWrongFalsely : Prop := fnExactCountRow.holds Try.pinned (OpenSpec.ofChange fnExactCountWrong)

/-- 'laws.FnExactTold': WHATEVER THE INPUT: true; the input reads as it did. -/
def fnExactToldSpec : ChangeSpec := { name := "fnExactTold", fn := fun _ => fun
  | [d1, d2, d3] => { results := [.lit (.bool true)], args := [d1, d2, d3] }
  | _ => none }
def fnExactToldRow : OpenClaim := { program := "ytfbiblomblcheaa", sum := "4365762cf1d4572a1e48e29b3bfc6e1db250920b39b484ccc8e1467f96ec5fb6", func := "loop.example/g00567/laws.FnExactTold", spec := "fnExactTold", plainKeys := false, apart := false }
def FnExactToldSaid : Prop := fnExactToldRow.holds Try.pinned (OpenSpec.ofChange fnExactToldSpec)

/-- ITS FALSE NEIGHBOUR: 'it returns false'. Refute it at one input. -/
def fnExactToldWrong : ChangeSpec := { name := "fnExactTold", fn := fun _ => fun
  | [d1, d2, d3] => { results := [.lit (.bool false)], args := [d1, d2, d3] }
  | _ => none }
def FnExactToldWrongFalsely : Prop := fnExactToldRow.holds Try.pinned (OpenSpec.ofChange fnExactToldWrong)

/-- 'laws.FnExactWinner': WHATEVER THE INPUT: true; the input reads as it did. -/
def fnExactWinnerSpec : ChangeSpec := { name := "fnExactWinner", fn := fun _ => fun
  | [d1, d2, d3] => { results := [.lit (.bool true)], args := [d1, d2, d3] }
  | _ => none }
def fnExactWinnerRow : OpenClaim := { program := "ytfbiblomblcheaa", sum := "4365762cf1d4572a1e48e29b3bfc6e1db250920b39b484ccc8e1467f96ec5fb6", func := "loop.example/g00567/laws.FnExactWinner", spec := "fnExactWinner", unfollowed := true, recurses := true, plainKeys := false, apart := false }
def FnExactWinnerSaid : Prop := fnExactWinnerRow.holds Try.pinned (OpenSpec.ofChange fnExactWinnerSpec)

/-- ITS FALSE NEIGHBOUR: 'it returns false'. Refute it at one input. -/
def fnExactWinnerWrong : ChangeSpec := { name := "fnExactWinner", fn := fun _ => fun
  | [d1, d2, d3] => { results := [.lit (.bool false)], args := [d1, d2, d3] }
  | _ => none }
def FnExactWinnerWrongFalsely : Prop := fnExactWinnerRow.holds Try.pinned (OpenSpec.ofChange fnExactWinnerWrong)

/-- 'laws.FnExactVoters': WHATEVER THE INPUT: true; the input reads as it did. -/
def fnExactVotersSpec : ChangeSpec := { name := "fnExactVoters", fn := fun _ => fun
  | [d1, d2, d3] => { results := [.lit (.bool true)], args := [d1, d2, d3] }
  | _ => none }
def fnExactVotersRow : OpenClaim := { program := "ytfbiblomblcheaa", sum := "4365762cf1d4572a1e48e29b3bfc6e1db250920b39b484ccc8e1467f96ec5fb6", func := "loop.example/g00567/laws.FnExactVoters", spec := "fnExactVoters", plainKeys := false, apart := false }
def FnExactVotersSaid : Prop := fnExactVotersRow.holds Try.pinned (OpenSpec.ofChange fnExactVotersSpec)

/-- ITS FALSE NEIGHBOUR: 'it returns false'. Refute it at one input. -/
def fnExactVotersWrong : ChangeSpec := { name := "fnExactVoters", fn := fun _ => fun
  | [d1, d2, d3] => { results := [.lit (.bool false)], args := [d1, d2, d3] }
  | _ => none }
def FnExactVotersWrongFalsely : Prop := fnExactVotersRow.holds Try.pinned (OpenSpec.ofChange fnExactVotersWrong)

/-- 'laws.FnExactViewsIn': WHATEVER THE INPUT: true; the input reads as it did. -/
def fnExactViewsInSpec : ChangeSpec := { name := "fnExactViewsIn", fn := fun _ => fun
  | [d] => { results := [.lit (.bool true)], args := [d] }
  | _ => none }
def fnExactViewsInRow : OpenClaim := { program := "ytfbiblomblcheaa", sum := "4365762cf1d4572a1e48e29b3bfc6e1db250920b39b484ccc8e1467f96ec5fb6", func := "loop.example/g00567/laws.FnExactViewsIn", spec := "fnExactViewsIn", plainKeys := false, apart := false }
def FnExactViewsInSaid : Prop := fnExactViewsInRow.holds Try.pinned (OpenSpec.ofChange fnExactViewsInSpec)

/-- ITS FALSE NEIGHBOUR: 'it returns false'. Refute it at one input. -/
def fnExactViewsInWrong : ChangeSpec := { name := "fnExactViewsIn", fn := fun _ => fun
  | [d] => { results := [.lit (.bool false)], args := [d] }
  | _ => none }
def FnExactViewsInWrongFalsely : Prop := fnExactViewsInRow.holds Try.pinned (OpenSpec.ofChange fnExactViewsInWrong)

/-- 'laws.FnExactSilent': WHATEVER THE INPUT: true; the input reads as it did. -/
def fnExactSilentSpec : ChangeSpec := { name := "fnExactSilent", fn := fun _ => fun
  | [d1, d2, d3] => { results := [.lit (.bool true)], args := [d1, d2, d3] }
  | _ => none }
def fnExactSilentRow : OpenClaim := { program := "ytfbiblomblcheaa", sum := "4365762cf1d4572a1e48e29b3bfc6e1db250920b39b484ccc8e1467f96ec5fb6", func := "loop.example/g00567/laws.FnExactSilent", spec := "fnExactSilent", plainKeys := false, apart := false }
def FnExactSilentSaid : Prop := fnExactSilentRow.holds Try.pinned (OpenSpec.ofChange fnExactSilentSpec)

/-- ITS FALSE NEIGHBOUR: 'it returns false'. Refute it at one input. -/
def fnExactSilentWrong : ChangeSpec := { name := "fnExactSilent", fn := fun _ => fun
  | [d1, d2, d3] => { results := [.lit (.bool false)], args := [d1, d2, d3] }
  | _ => none }
def FnExactSilentWrongFalsely : Prop := fnExactSilentRow.holds Try.pinned (OpenSpec.ofChange fnExactSilentWrong)

/-- 'laws.FnExactJoined': WHATEVER THE INPUT: true; the input reads as it did. -/
def fnExactJoinedSpec : ChangeSpec := { name := "fnExactJoined", fn := fun _ => fun
  | [d1, d2] => { results := [.lit (.bool true)], args := [d1, d2] }
  | _ => none }
def fnExactJoinedRow : OpenClaim := { program := "ytfbiblomblcheaa", sum := "4365762cf1d4572a1e48e29b3bfc6e1db250920b39b484ccc8e1467f96ec5fb6", func := "loop.example/g00567/laws.FnExactJoined", spec := "fnExactJoined", plainKeys := false, apart := false }
def FnExactJoinedSaid : Prop := fnExactJoinedRow.holds Try.pinned (OpenSpec.ofChange fnExactJoinedSpec)

/-- ITS FALSE NEIGHBOUR: 'it returns false'. Refute it at one input. -/
def fnExactJoinedWrong : ChangeSpec := { name := "fnExactJoined", fn := fun _ => fun
  | [d1, d2] => { results := [.lit (.bool false)], args := [d1, d2] }
  | _ => none }
def FnExactJoinedWrongFalsely : Prop := fnExactJoinedRow.holds Try.pinned (OpenSpec.ofChange fnExactJoinedWrong)

/-- 'laws.FnExactOpen': WHATEVER THE INPUT: true; the input reads as it did. -/
def fnExactOpenSpec : ChangeSpec := { name := "fnExactOpen", fn := fun _ => fun
  | [d1, d2, d3] => { results := [.lit (.bool true)], args := [d1, d2, d3] }
  | _ => none }
def fnExactOpenRow : OpenClaim := { program := "ytfbiblomblcheaa", sum := "4365762cf1d4572a1e48e29b3bfc6e1db250920b39b484ccc8e1467f96ec5fb6", func := "loop.example/g00567/laws.FnExactOpen", spec := "fnExactOpen", plainKeys := false, apart := false }
def FnExactOpenSaid : Prop := fnExactOpenRow.holds Try.pinned (OpenSpec.ofChange fnExactOpenSpec)

/-- ITS FALSE NEIGHBOUR: 'it returns false'. Refute it at one input. -/
def fnExactOpenWrong : ChangeSpec := { name := "fnExactOpen", fn := fun _ => fun
  | [d1, d2, d3] => { results := [.lit (.bool false)], args := [d1, d2, d3] }
  | _ => none }
def FnExactOpenWrongFalsely : Prop := fnExactOpenRow.holds Try.pinned (OpenSpec.ofChange fnExactOpenWrong)

/- THE SECOND FORM. 'bulk': how many values and letters a reading holds, each counted each time it is reached (what is shared counts as often as it is met; a slice's spare places count too). A statement '..UptoSaid' is the law's where the arguments, and the package variables that the reading takes, are together of bulk at most 1048576: NARROWER than '..Said'. Prove '..Said' where nothing that the law and all that it calls make is longer than what came in: it says more and counts as full. Else prove '..UptoSaid'. A law counts once. -/
mutual
def uptoBulk {H : Type} : DataW H → Nat
  | .lit (.string bytes) => bytes.length + 1
  | .lit _ => 1
  | .nil => 1
  | .ptr d => uptoBulk d + 1
  | .slice elems spare => uptoBulkAll elems + uptoBulkAll spare + 1
  | .agg parts => uptoBulkAll parts + 1
  | .iface _ d => uptoBulk d + 1
  | .map entries => uptoBulkEntries entries + 1
  | .held _ => 1
def uptoBulkAll {H : Type} : List (DataW H) → Nat
  | [] => 0
  | d :: r => uptoBulk d + uptoBulkAll r
def uptoBulkEntries {H : Type} : List (Lit × DataW H) → Nat
  | [] => 0
  | x :: r => uptoBulkEntry x + uptoBulkEntries r
def uptoBulkEntry {H : Type} : Lit × DataW H → Nat
  | (.string bytes, d) => bytes.length + uptoBulk d + 1
  | (_, d) => uptoBulk d + 1
 end
def uptoSmall : (H : Type) → List (DataW H) → Bool := fun _ ds => decide (uptoBulkAll ds ≤ 1048576)
def OpenSpec.upto (s : _root_.Go.ChangeSpec) : _root_.Go.OpenSpec := { _root_.Go.OpenSpec.ofChange s with cond := some uptoSmall }

/-- 'laws.FnSizes', WHERE WHAT IT READS IS OF BULK AT MOST 1048576: true; the input reads as it did. -/
def fnSizesUptoRow : OpenClaim := { program := "ytfbiblomblcheaa", sum := "4365762cf1d4572a1e48e29b3bfc6e1db250920b39b484ccc8e1467f96ec5fb6", func := "loop.example/g00567/laws.FnSizes", spec := "fnSizes", plainKeys := false, apart := false, narrowed := true }
def FnSizesUptoSaid : Prop := fnSizesUptoRow.holds Try.pinned (OpenSpec.upto fnSizesSpec)

/-- 'laws.FnTallies', WHERE WHAT IT READS IS OF BULK AT MOST 1048576: true; the input reads as it did. -/
def fnTalliesUptoRow : OpenClaim := { program := "ytfbiblomblcheaa", sum := "4365762cf1d4572a1e48e29b3bfc6e1db250920b39b484ccc8e1467f96ec5fb6", func := "loop.example/g00567/laws.FnTallies", spec := "fnTallies", plainKeys := false, apart := false, narrowed := true }
def FnTalliesUptoSaid : Prop := fnTalliesUptoRow.holds Try.pinned (OpenSpec.upto fnTalliesSpec)

/-- 'laws.FnWinners', WHERE WHAT IT READS IS OF BULK AT MOST 1048576: true; the input reads as it did. -/
def fnWinnersUptoRow : OpenClaim := { program := "ytfbiblomblcheaa", sum := "4365762cf1d4572a1e48e29b3bfc6e1db250920b39b484ccc8e1467f96ec5fb6", func := "loop.example/g00567/laws.FnWinners", spec := "fnWinners", unfollowed := true, recurses := true, plainKeys := false, apart := false, narrowed := true }
def FnWinnersUptoSaid : Prop := fnWinnersUptoRow.holds Try.pinned (OpenSpec.upto fnWinnersSpec)

/-- 'laws.FnExactSizeOk', WHERE WHAT IT READS IS OF BULK AT MOST 1048576: true; the input reads as it did. -/
def fnExactSizeOkUptoRow : OpenClaim := { program := "ytfbiblomblcheaa", sum := "4365762cf1d4572a1e48e29b3bfc6e1db250920b39b484ccc8e1467f96ec5fb6", func := "loop.example/g00567/laws.FnExactSizeOk", spec := "fnExactSizeOk", plainKeys := false, apart := false, narrowed := true }
def FnExactSizeOkUptoSaid : Prop := fnExactSizeOkUptoRow.holds Try.pinned (OpenSpec.upto fnExactSizeOkSpec)

/-- 'laws.FnExactFaults', WHERE WHAT IT READS IS OF BULK AT MOST 1048576: true; the input reads as it did. -/
def fnExactFaultsUptoRow : OpenClaim := { program := "ytfbiblomblcheaa", sum := "4365762cf1d4572a1e48e29b3bfc6e1db250920b39b484ccc8e1467f96ec5fb6", func := "loop.example/g00567/laws.FnExactFaults", spec := "fnExactFaults", plainKeys := false, apart := false, narrowed := true }
def FnExactFaultsUptoSaid : Prop := fnExactFaultsUptoRow.holds Try.pinned (OpenSpec.upto fnExactFaultsSpec)

/-- 'laws.FnExactStrong', WHERE WHAT IT READS IS OF BULK AT MOST 1048576: true; the input reads as it did. -/
def fnExactStrongUptoRow : OpenClaim := { program := "ytfbiblomblcheaa", sum := "4365762cf1d4572a1e48e29b3bfc6e1db250920b39b484ccc8e1467f96ec5fb6", func := "loop.example/g00567/laws.FnExactStrong", spec := "fnExactStrong", plainKeys := false, apart := false, narrowed := true }
def FnExactStrongUptoSaid : Prop := fnExactStrongUptoRow.holds Try.pinned (OpenSpec.upto fnExactStrongSpec)

/-- 'laws.FnExactWeak', WHERE WHAT IT READS IS OF BULK AT MOST 1048576: true; the input reads as it did. -/
def fnExactWeakUptoRow : OpenClaim := { program := "ytfbiblomblcheaa", sum := "4365762cf1d4572a1e48e29b3bfc6e1db250920b39b484ccc8e1467f96ec5fb6", func := "loop.example/g00567/laws.FnExactWeak", spec := "fnExactWeak", plainKeys := false, apart := false, narrowed := true }
def FnExactWeakUptoSaid : Prop := fnExactWeakUptoRow.holds Try.pinned (OpenSpec.upto fnExactWeakSpec)

/-- 'laws.FnExactTallyOk', WHERE WHAT IT READS IS OF BULK AT MOST 1048576: true; the input reads as it did. -/
def fnExactTallyOkUptoRow : OpenClaim := { program := "ytfbiblomblcheaa", sum := "4365762cf1d4572a1e48e29b3bfc6e1db250920b39b484ccc8e1467f96ec5fb6", func := "loop.example/g00567/laws.FnExactTallyOk", spec := "fnExactTallyOk", plainKeys := false, apart := false, narrowed := true }
def FnExactTallyOkUptoSaid : Prop := fnExactTallyOkUptoRow.holds Try.pinned (OpenSpec.upto fnExactTallyOkSpec)

/-- 'laws.FnExactTallyAdd', WHERE WHAT IT READS IS OF BULK AT MOST 1048576: true; the input reads as it did. -/
def fnExactTallyAddUptoRow : OpenClaim := { program := "ytfbiblomblcheaa", sum := "4365762cf1d4572a1e48e29b3bfc6e1db250920b39b484ccc8e1467f96ec5fb6", func := "loop.example/g00567/laws.FnExactTallyAdd", spec := "fnExactTallyAdd", plainKeys := false, apart := false, narrowed := true }
def FnExactTallyAddUptoSaid : Prop := fnExactTallyAddUptoRow.holds Try.pinned (OpenSpec.upto fnExactTallyAddSpec)

/-- 'laws.FnExactCount', WHERE WHAT IT READS IS OF BULK AT MOST 1048576: true; the input reads as it did. -/
def fnExactCountUptoRow : OpenClaim := { program := "ytfbiblomblcheaa", sum := "4365762cf1d4572a1e48e29b3bfc6e1db250920b39b484ccc8e1467f96ec5fb6", func := "loop.example/g00567/laws.FnExactCount", spec := "fnExactCount", plainKeys := false, apart := false, narrowed := true }
def FnExactCountUptoSaid : Prop := fnExactCountUptoRow.holds Try.pinned (OpenSpec.upto fnExactCountSpec)

/-- 'laws.FnExactTold', WHERE WHAT IT READS IS OF BULK AT MOST 1048576: true; the input reads as it did. -/
def fnExactToldUptoRow : OpenClaim := { program := "ytfbiblomblcheaa", sum := "4365762cf1d4572a1e48e29b3bfc6e1db250920b39b484ccc8e1467f96ec5fb6", func := "loop.example/g00567/laws.FnExactTold", spec := "fnExactTold", plainKeys := false, apart := false, narrowed := true }
def FnExactToldUptoSaid : Prop := fnExactToldUptoRow.holds Try.pinned (OpenSpec.upto fnExactToldSpec)

/-- 'laws.FnExactWinner', WHERE WHAT IT READS IS OF BULK AT MOST 1048576: true; the input reads as it did. -/
def fnExactWinnerUptoRow : OpenClaim := { program := "ytfbiblomblcheaa", sum := "4365762cf1d4572a1e48e29b3bfc6e1db250920b39b484ccc8e1467f96ec5fb6", func := "loop.example/g00567/laws.FnExactWinner", spec := "fnExactWinner", unfollowed := true, recurses := true, plainKeys := false, apart := false, narrowed := true }
def FnExactWinnerUptoSaid : Prop := fnExactWinnerUptoRow.holds Try.pinned (OpenSpec.upto fnExactWinnerSpec)

/-- 'laws.FnExactVoters', WHERE WHAT IT READS IS OF BULK AT MOST 1048576: true; the input reads as it did. -/
def fnExactVotersUptoRow : OpenClaim := { program := "ytfbiblomblcheaa", sum := "4365762cf1d4572a1e48e29b3bfc6e1db250920b39b484ccc8e1467f96ec5fb6", func := "loop.example/g00567/laws.FnExactVoters", spec := "fnExactVoters", plainKeys := false, apart := false, narrowed := true }
def FnExactVotersUptoSaid : Prop := fnExactVotersUptoRow.holds Try.pinned (OpenSpec.upto fnExactVotersSpec)

/-- 'laws.FnExactViewsIn', WHERE WHAT IT READS IS OF BULK AT MOST 1048576: true; the input reads as it did. -/
def fnExactViewsInUptoRow : OpenClaim := { program := "ytfbiblomblcheaa", sum := "4365762cf1d4572a1e48e29b3bfc6e1db250920b39b484ccc8e1467f96ec5fb6", func := "loop.example/g00567/laws.FnExactViewsIn", spec := "fnExactViewsIn", plainKeys := false, apart := false, narrowed := true }
def FnExactViewsInUptoSaid : Prop := fnExactViewsInUptoRow.holds Try.pinned (OpenSpec.upto fnExactViewsInSpec)

/-- 'laws.FnExactSilent', WHERE WHAT IT READS IS OF BULK AT MOST 1048576: true; the input reads as it did. -/
def fnExactSilentUptoRow : OpenClaim := { program := "ytfbiblomblcheaa", sum := "4365762cf1d4572a1e48e29b3bfc6e1db250920b39b484ccc8e1467f96ec5fb6", func := "loop.example/g00567/laws.FnExactSilent", spec := "fnExactSilent", plainKeys := false, apart := false, narrowed := true }
def FnExactSilentUptoSaid : Prop := fnExactSilentUptoRow.holds Try.pinned (OpenSpec.upto fnExactSilentSpec)

/-- 'laws.FnExactJoined', WHERE WHAT IT READS IS OF BULK AT MOST 1048576: true; the input reads as it did. -/
def fnExactJoinedUptoRow : OpenClaim := { program := "ytfbiblomblcheaa", sum := "4365762cf1d4572a1e48e29b3bfc6e1db250920b39b484ccc8e1467f96ec5fb6", func := "loop.example/g00567/laws.FnExactJoined", spec := "fnExactJoined", plainKeys := false, apart := false, narrowed := true }
def FnExactJoinedUptoSaid : Prop := fnExactJoinedUptoRow.holds Try.pinned (OpenSpec.upto fnExactJoinedSpec)

/-- 'laws.FnExactOpen', WHERE WHAT IT READS IS OF BULK AT MOST 1048576: true; the input reads as it did. -/
def fnExactOpenUptoRow : OpenClaim := { program := "ytfbiblomblcheaa", sum := "4365762cf1d4572a1e48e29b3bfc6e1db250920b39b484ccc8e1467f96ec5fb6", func := "loop.example/g00567/laws.FnExactOpen", spec := "fnExactOpen", plainKeys := false, apart := false, narrowed := true }
def FnExactOpenUptoSaid : Prop := fnExactOpenUptoRow.holds Try.pinned (OpenSpec.upto fnExactOpenSpec)

end Rows
end Go.Proofs.Ytfbiblomblcheaa
