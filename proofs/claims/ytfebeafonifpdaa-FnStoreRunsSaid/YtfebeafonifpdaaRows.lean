/-
  No cell of these rows narrows 'for every input' (looked for: loops, veiled, ifaces, maps, wideKeys, modest, calm, conditions, laid).
  DERIVED. THE GIVEN ROWS OF THIS SEAT. 14 by the template 'for every input the law returns true; each argument reads behind the call as it read before'; 0 by the template 'total and deterministic' (their statements: YtfebeafonifpdaaTotals.lean).
  GIVEN WITH THE SEED: the statements are not yours to turn. If you find one false, say at which input.
  Laid BY PROGRAM, IN A SANDBOX (cutbox-rows.mjs): the forced cells as the released guide's own fill.sh prints them over the translation 5fe1df216c94683f… (all of the seat's roots in one cut). By AI agents, Wed Nov 11 2026. No macro, syntax, notation, axiom, sorry.
-/
import Derived.Test.YtfebeafonifpdaaChecked
import GoSem.Claim
import GoSem.ClaimJoined
import GoSem.ClaimMapViews
import Derived.JoinedTies
import Derived.KernelRfl
namespace Go.Proofs.Ytfebeafonifpdaa
/- THE CELL 'sum', in the pinned program and in every row, IS THE sha256 OF THE DUMP (.gsa) THAT YtfebeafonifpdaaProg.lean LOADS. Nothing in Lean hashes anything: it is a label: what it is worth is what the hold of that sum in a sandbox is worth. -/
noncomputable def Try.pinned : Pinned := { name := "ytfebeafonifpdaa", sum := "5fe1df216c94683f01539ec8404bd70e1af86e52ee960722ba1bdb643e660bb2", checked := Try.checked }
namespace Rows
def none {H : Type} : Left H := { results := [], args := [] }

/-- 'laws.FnCmds': WHATEVER THE INPUT: true; the input reads as it did. -/
def fnCmdsSpec : ChangeSpec := { name := "fnCmds", fn := fun _ => fun
  | [d] => { results := [.lit (.bool true)], args := [d] }
  | _ => none }
def fnCmdsRow : OpenClaim := { program := "ytfebeafonifpdaa", sum := "5fe1df216c94683f01539ec8404bd70e1af86e52ee960722ba1bdb643e660bb2", func := "loop.example/g00567/laws.FnCmds", spec := "fnCmds", unfollowed := true, recurses := true, plainKeys := false, apart := false }
def FnCmdsSaid : Prop := fnCmdsRow.holds Try.pinned (OpenSpec.ofChange fnCmdsSpec)

/-- ITS FALSE NEIGHBOUR: 'it returns false'. Refute it at one input. -/
def fnCmdsWrong : ChangeSpec := { name := "fnCmds", fn := fun _ => fun
  | [d] => { results := [.lit (.bool false)], args := [d] }
  | _ => none }
def FnCmdsWrongFalsely : Prop := fnCmdsRow.holds Try.pinned (OpenSpec.ofChange fnCmdsWrong)

/-- 'laws.FnStores': WHATEVER THE INPUT: true; the input reads as it did. -/
def fnStoresSpec : ChangeSpec := { name := "fnStores", fn := fun _ => fun
  | [d] => { results := [.lit (.bool true)], args := [d] }
  | _ => none }
def fnStoresRow : OpenClaim := { program := "ytfebeafonifpdaa", sum := "5fe1df216c94683f01539ec8404bd70e1af86e52ee960722ba1bdb643e660bb2", func := "loop.example/g00567/laws.FnStores", spec := "fnStores", unfollowed := true, recurses := true, plainKeys := false, apart := false }
def FnStoresSaid : Prop := fnStoresRow.holds Try.pinned (OpenSpec.ofChange fnStoresSpec)

/-- ITS FALSE NEIGHBOUR: 'it returns false'. Refute it at one input. -/
def fnStoresWrong : ChangeSpec := { name := "fnStores", fn := fun _ => fun
  | [d] => { results := [.lit (.bool false)], args := [d] }
  | _ => none }
def FnStoresWrongFalsely : Prop := fnStoresRow.holds Try.pinned (OpenSpec.ofChange fnStoresWrong)

/-- 'laws.FnStoreRuns': WHATEVER THE INPUT: true; the input reads as it did. -/
def fnStoreRunsSpec : ChangeSpec := { name := "fnStoreRuns", fn := fun _ => fun
  | [d] => { results := [.lit (.bool true)], args := [d] }
  | _ => none }
def fnStoreRunsRow : OpenClaim := { program := "ytfebeafonifpdaa", sum := "5fe1df216c94683f01539ec8404bd70e1af86e52ee960722ba1bdb643e660bb2", func := "loop.example/g00567/laws.FnStoreRuns", spec := "fnStoreRuns", unfollowed := true, recurses := true, plainKeys := false, apart := false }
def FnStoreRunsSaid : Prop := fnStoreRunsRow.holds Try.pinned (OpenSpec.ofChange fnStoreRunsSpec)

/-- ITS FALSE NEIGHBOUR: 'it returns false'. Refute it at one input. -/
def fnStoreRunsWrong : ChangeSpec := { name := "fnStoreRuns", fn := fun _ => fun
  | [d] => { results := [.lit (.bool false)], args := [d] }
  | _ => none }
def FnStoreRunsWrongFalsely : Prop := fnStoreRunsRow.holds Try.pinned (OpenSpec.ofChange fnStoreRunsWrong)

/-- 'laws.FnAccepted': WHATEVER THE INPUT: true; the input reads as it did. -/
def fnAcceptedSpec : ChangeSpec := { name := "fnAccepted", fn := fun _ => fun
  | [d] => { results := [.lit (.bool true)], args := [d] }
  | _ => none }
def fnAcceptedRow : OpenClaim := { program := "ytfebeafonifpdaa", sum := "5fe1df216c94683f01539ec8404bd70e1af86e52ee960722ba1bdb643e660bb2", func := "loop.example/g00567/laws.FnAccepted", spec := "fnAccepted", unfollowed := true, recurses := true, plainKeys := false, apart := false }
def FnAcceptedSaid : Prop := fnAcceptedRow.holds Try.pinned (OpenSpec.ofChange fnAcceptedSpec)

/-- ITS FALSE NEIGHBOUR: 'it returns false'. Refute it at one input. -/
def fnAcceptedWrong : ChangeSpec := { name := "fnAccepted", fn := fun _ => fun
  | [d] => { results := [.lit (.bool false)], args := [d] }
  | _ => none }
def FnAcceptedWrongFalsely : Prop := fnAcceptedRow.holds Try.pinned (OpenSpec.ofChange fnAcceptedWrong)

/-- 'laws.FnExactCmdOk': WHATEVER THE INPUT: true; the input reads as it did. -/
def fnExactCmdOkSpec : ChangeSpec := { name := "fnExactCmdOk", fn := fun _ => fun
  | [d] => { results := [.lit (.bool true)], args := [d] }
  | _ => none }
def fnExactCmdOkRow : OpenClaim := { program := "ytfebeafonifpdaa", sum := "5fe1df216c94683f01539ec8404bd70e1af86e52ee960722ba1bdb643e660bb2", func := "loop.example/g00567/laws.FnExactCmdOk", spec := "fnExactCmdOk", plainKeys := false, apart := false }
def FnExactCmdOkSaid : Prop := fnExactCmdOkRow.holds Try.pinned (OpenSpec.ofChange fnExactCmdOkSpec)

/-- ITS FALSE NEIGHBOUR: 'it returns false'. Refute it at one input. -/
def fnExactCmdOkWrong : ChangeSpec := { name := "fnExactCmdOk", fn := fun _ => fun
  | [d] => { results := [.lit (.bool false)], args := [d] }
  | _ => none }
def FnExactCmdOkWrongFalsely : Prop := fnExactCmdOkRow.holds Try.pinned (OpenSpec.ofChange fnExactCmdOkWrong)

/-- 'laws.FnExactCmdVal': WHATEVER THE INPUT: true; the input reads as it did. -/
def fnExactCmdValSpec : ChangeSpec := { name := "fnExactCmdVal", fn := fun _ => fun
  | [d] => { results := [.lit (.bool true)], args := [d] }
  | _ => none }
def fnExactCmdValRow : OpenClaim := { program := "ytfebeafonifpdaa", sum := "5fe1df216c94683f01539ec8404bd70e1af86e52ee960722ba1bdb643e660bb2", func := "loop.example/g00567/laws.FnExactCmdVal", spec := "fnExactCmdVal", plainKeys := false, apart := false }
def FnExactCmdValSaid : Prop := fnExactCmdValRow.holds Try.pinned (OpenSpec.ofChange fnExactCmdValSpec)

/-- ITS FALSE NEIGHBOUR: 'it returns false'. Refute it at one input. -/
def fnExactCmdValWrong : ChangeSpec := { name := "fnExactCmdVal", fn := fun _ => fun
  | [d] => { results := [.lit (.bool false)], args := [d] }
  | _ => none }
def FnExactCmdValWrongFalsely : Prop := fnExactCmdValRow.holds Try.pinned (OpenSpec.ofChange fnExactCmdValWrong)

/-- 'laws.FnExactValCmd': WHATEVER THE INPUT: true; the input reads as it did. -/
def fnExactValCmdSpec : ChangeSpec := { name := "fnExactValCmd", fn := fun _ => fun
  | [d] => { results := [.lit (.bool true)], args := [d] }
  | _ => none }
def fnExactValCmdRow : OpenClaim := { program := "ytfebeafonifpdaa", sum := "5fe1df216c94683f01539ec8404bd70e1af86e52ee960722ba1bdb643e660bb2", func := "loop.example/g00567/laws.FnExactValCmd", spec := "fnExactValCmd", plainKeys := false, apart := false }
def FnExactValCmdSaid : Prop := fnExactValCmdRow.holds Try.pinned (OpenSpec.ofChange fnExactValCmdSpec)

/-- ITS FALSE NEIGHBOUR: 'it returns false'. Refute it at one input. -/
def fnExactValCmdWrong : ChangeSpec := { name := "fnExactValCmd", fn := fun _ => fun
  | [d] => { results := [.lit (.bool false)], args := [d] }
  | _ => none }
def FnExactValCmdWrongFalsely : Prop := fnExactValCmdRow.holds Try.pinned (OpenSpec.ofChange fnExactValCmdWrong)

/-- 'laws.FnExactStoreNew': WHATEVER THE INPUT: true; the input reads as it did. -/
def fnExactStoreNewSpec : ChangeSpec := { name := "fnExactStoreNew", fn := fun _ => fun
  | [] => { results := [.lit (.bool true)], args := [] }
  | _ => none }
def fnExactStoreNewRow : OpenClaim := { program := "ytfebeafonifpdaa", sum := "5fe1df216c94683f01539ec8404bd70e1af86e52ee960722ba1bdb643e660bb2", func := "loop.example/g00567/laws.FnExactStoreNew", spec := "fnExactStoreNew", plainKeys := false, apart := false }
def FnExactStoreNewSaid : Prop := fnExactStoreNewRow.holds Try.pinned (OpenSpec.ofChange fnExactStoreNewSpec)

/-- ITS FALSE NEIGHBOUR: 'it returns false'. Refute it at one input. -/
def fnExactStoreNewWrong : ChangeSpec := { name := "fnExactStoreNew", fn := fun _ => fun
  | [] => { results := [.lit (.bool false)], args := [] }
  | _ => none }
def FnExactStoreNewWrongFalsely : Prop := fnExactStoreNewRow.holds Try.pinned (OpenSpec.ofChange fnExactStoreNewWrong)

/-- 'laws.FnExactStoreOk': WHATEVER THE INPUT: true; the input reads as it did. -/
def fnExactStoreOkSpec : ChangeSpec := { name := "fnExactStoreOk", fn := fun _ => fun
  | [d] => { results := [.lit (.bool true)], args := [d] }
  | _ => none }
def fnExactStoreOkRow : OpenClaim := { program := "ytfebeafonifpdaa", sum := "5fe1df216c94683f01539ec8404bd70e1af86e52ee960722ba1bdb643e660bb2", func := "loop.example/g00567/laws.FnExactStoreOk", spec := "fnExactStoreOk", unfollowed := true, recurses := true, plainKeys := false, apart := false }
def FnExactStoreOkSaid : Prop := fnExactStoreOkRow.holds Try.pinned (OpenSpec.ofChange fnExactStoreOkSpec)

/-- ITS FALSE NEIGHBOUR: 'it returns false'. Refute it at one input. -/
def fnExactStoreOkWrong : ChangeSpec := { name := "fnExactStoreOk", fn := fun _ => fun
  | [d] => { results := [.lit (.bool false)], args := [d] }
  | _ => none }
def FnExactStoreOkWrongFalsely : Prop := fnExactStoreOkRow.holds Try.pinned (OpenSpec.ofChange fnExactStoreOkWrong)

/-- 'laws.FnExactStoreDo': WHATEVER THE INPUT: true; the input reads as it did. -/
def fnExactStoreDoSpec : ChangeSpec := { name := "fnExactStoreDo", fn := fun _ => fun
  | [d1, d2] => { results := [.lit (.bool true)], args := [d1, d2] }
  | _ => none }
def fnExactStoreDoRow : OpenClaim := { program := "ytfebeafonifpdaa", sum := "5fe1df216c94683f01539ec8404bd70e1af86e52ee960722ba1bdb643e660bb2", func := "loop.example/g00567/laws.FnExactStoreDo", spec := "fnExactStoreDo", unfollowed := true, recurses := true, plainKeys := false, apart := false }
def FnExactStoreDoSaid : Prop := fnExactStoreDoRow.holds Try.pinned (OpenSpec.ofChange fnExactStoreDoSpec)

/-- ITS FALSE NEIGHBOUR: 'it returns false'. Refute it at one input. -/
def fnExactStoreDoWrong : ChangeSpec := { name := "fnExactStoreDo", fn := fun _ => fun
  | [d1, d2] => { results := [.lit (.bool false)], args := [d1, d2] }
  | _ => none }
def FnExactStoreDoWrongFalsely : Prop := fnExactStoreDoRow.holds Try.pinned (OpenSpec.ofChange fnExactStoreDoWrong)

/-- 'laws.FnExactStoreRun': WHATEVER THE INPUT: true; the input reads as it did. -/
def fnExactStoreRunSpec : ChangeSpec := { name := "fnExactStoreRun", fn := fun _ => fun
  | [d1, d2] => { results := [.lit (.bool true)], args := [d1, d2] }
  | _ => none }
def fnExactStoreRunRow : OpenClaim := { program := "ytfebeafonifpdaa", sum := "5fe1df216c94683f01539ec8404bd70e1af86e52ee960722ba1bdb643e660bb2", func := "loop.example/g00567/laws.FnExactStoreRun", spec := "fnExactStoreRun", unfollowed := true, recurses := true, plainKeys := false, apart := false }
def FnExactStoreRunSaid : Prop := fnExactStoreRunRow.holds Try.pinned (OpenSpec.ofChange fnExactStoreRunSpec)

/-- ITS FALSE NEIGHBOUR: 'it returns false'. Refute it at one input. -/
def fnExactStoreRunWrong : ChangeSpec := { name := "fnExactStoreRun", fn := fun _ => fun
  | [d1, d2] => { results := [.lit (.bool false)], args := [d1, d2] }
  | _ => none }
def FnExactStoreRunWrongFalsely : Prop := fnExactStoreRunRow.holds Try.pinned (OpenSpec.ofChange fnExactStoreRunWrong)

/-- 'laws.FnExactAccepted': WHATEVER THE INPUT: true; the input reads as it did. -/
def fnExactAcceptedSpec : ChangeSpec := { name := "fnExactAccepted", fn := fun _ => fun
  | [d1, d2, d3] => { results := [.lit (.bool true)], args := [d1, d2, d3] }
  | _ => none }
def fnExactAcceptedRow : OpenClaim := { program := "ytfebeafonifpdaa", sum := "5fe1df216c94683f01539ec8404bd70e1af86e52ee960722ba1bdb643e660bb2", func := "loop.example/g00567/laws.FnExactAccepted", spec := "fnExactAccepted", unfollowed := true, recurses := true, plainKeys := false, apart := false }
def FnExactAcceptedSaid : Prop := fnExactAcceptedRow.holds Try.pinned (OpenSpec.ofChange fnExactAcceptedSpec)

/-- ITS FALSE NEIGHBOUR: 'it returns false'. Refute it at one input. -/
def fnExactAcceptedWrong : ChangeSpec := { name := "fnExactAccepted", fn := fun _ => fun
  | [d1, d2, d3] => { results := [.lit (.bool false)], args := [d1, d2, d3] }
  | _ => none }
def FnExactAcceptedWrongFalsely : Prop := fnExactAcceptedRow.holds Try.pinned (OpenSpec.ofChange fnExactAcceptedWrong)

/-- 'laws.FnExactStoreSame': WHATEVER THE INPUT: true; the input reads as it did. -/
def fnExactStoreSameSpec : ChangeSpec := { name := "fnExactStoreSame", fn := fun _ => fun
  | [d1, d2] => { results := [.lit (.bool true)], args := [d1, d2] }
  | _ => none }
def fnExactStoreSameRow : OpenClaim := { program := "ytfebeafonifpdaa", sum := "5fe1df216c94683f01539ec8404bd70e1af86e52ee960722ba1bdb643e660bb2", func := "loop.example/g00567/laws.FnExactStoreSame", spec := "fnExactStoreSame", unfollowed := true, recurses := true, plainKeys := false, apart := false }
def FnExactStoreSameSaid : Prop := fnExactStoreSameRow.holds Try.pinned (OpenSpec.ofChange fnExactStoreSameSpec)

/-- ITS FALSE NEIGHBOUR: 'it returns false'. Refute it at one input. -/
def fnExactStoreSameWrong : ChangeSpec := { name := "fnExactStoreSame", fn := fun _ => fun
  | [d1, d2] => { results := [.lit (.bool false)], args := [d1, d2] }
  | _ => none }
def FnExactStoreSameWrongFalsely : Prop := fnExactStoreSameRow.holds Try.pinned (OpenSpec.ofChange fnExactStoreSameWrong)

/-- 'laws.FnExactUndo': WHATEVER THE INPUT: true; the input reads as it did. -/
def fnExactUndoSpec : ChangeSpec := { name := "fnExactUndo", fn := fun _ => fun
  | [d1, d2, d3] => { results := [.lit (.bool true)], args := [d1, d2, d3] }
  | _ => none }
def fnExactUndoRow : OpenClaim := { program := "ytfebeafonifpdaa", sum := "5fe1df216c94683f01539ec8404bd70e1af86e52ee960722ba1bdb643e660bb2", func := "loop.example/g00567/laws.FnExactUndo", spec := "fnExactUndo", unfollowed := true, recurses := true, plainKeys := false, apart := false }
def FnExactUndoSaid : Prop := fnExactUndoRow.holds Try.pinned (OpenSpec.ofChange fnExactUndoSpec)

/-- ITS FALSE NEIGHBOUR: 'it returns false'. Refute it at one input. -/
def fnExactUndoWrong : ChangeSpec := { name := "fnExactUndo", fn := fun _ => fun
  | [d1, d2, d3] => { results := [.lit (.bool false)], args := [d1, d2, d3] }
  | _ => none }
def FnExactUndoWrongFalsely : Prop := fnExactUndoRow.holds Try.pinned (OpenSpec.ofChange fnExactUndoWrong)

/- THE SECOND FORM. 'bulk': how many values and letters a reading holds, each counted each time it is reached (what is shared counts as often as it is met; a slice's spare places count too). A statement '..UptoSaid' is the law's where the arguments, and the package variables that the reading takes, are together of bulk at most 1048576: NARROWER than '..Said'. Prove '..Said' where nothing that the law and all that it calls make is longer than what came in: it says more and counts as full. Else prove '..UptoSaid'. A law counts once. -/
mutual
def uptoBulk {H : Type} : DataW H → Nat
  | .lit (.string bytes) => bytes.length + 1
  | .lit _ => 1
  | .nil => 1
  | .ptr d => uptoBulk d + 1
  | .slice elems spare => uptoBulkAll elems + uptoBulkAll spare + 1
  | .agg parts => uptoBulkAll parts + 1
  | .iface _ d => uptoBulk d + 1
  | .map entries => uptoBulkEntries entries + 1
  | .held _ => 1
def uptoBulkAll {H : Type} : List (DataW H) → Nat
  | [] => 0
  | d :: r => uptoBulk d + uptoBulkAll r
def uptoBulkEntries {H : Type} : List (Lit × DataW H) → Nat
  | [] => 0
  | x :: r => uptoBulkEntry x + uptoBulkEntries r
def uptoBulkEntry {H : Type} : Lit × DataW H → Nat
  | (.string bytes, d) => bytes.length + uptoBulk d + 1
  | (_, d) => uptoBulk d + 1
 end
def uptoSmall : (H : Type) → List (DataW H) → Bool := fun _ ds => decide (uptoBulkAll ds ≤ 1048576)
def OpenSpec.upto (s : _root_.Go.ChangeSpec) : _root_.Go.OpenSpec := { _root_.Go.OpenSpec.ofChange s with cond := some uptoSmall }

/-- 'laws.FnCmds', WHERE WHAT IT READS IS OF BULK AT MOST 1048576: true; the input reads as it did. -/
def fnCmdsUptoRow : OpenClaim := { program := "ytfebeafonifpdaa", sum := "5fe1df216c94683f01539ec8404bd70e1af86e52ee960722ba1bdb643e660bb2", func := "loop.example/g00567/laws.FnCmds", spec := "fnCmds", unfollowed := true, recurses := true, plainKeys := false, apart := false, narrowed := true }
def FnCmdsUptoSaid : Prop := fnCmdsUptoRow.holds Try.pinned (OpenSpec.upto fnCmdsSpec)

/-- 'laws.FnStores', WHERE WHAT IT READS IS OF BULK AT MOST 1048576: true; the input reads as it did. -/
def fnStoresUptoRow : OpenClaim := { program := "ytfebeafonifpdaa", sum := "5fe1df216c94683f01539ec8404bd70e1af86e52ee960722ba1bdb643e660bb2", func := "loop.example/g00567/laws.FnStores", spec := "fnStores", unfollowed := true, recurses := true, plainKeys := false, apart := false, narrowed := true }
def FnStoresUptoSaid : Prop := fnStoresUptoRow.holds Try.pinned (OpenSpec.upto fnStoresSpec)

/-- 'laws.FnStoreRuns', WHERE WHAT IT READS IS OF BULK AT MOST 1048576: true; the input reads as it did. -/
def fnStoreRunsUptoRow : OpenClaim := { program := "ytfebeafonifpdaa", sum := "5fe1df216c94683f01539ec8404bd70e1af86e52ee960722ba1bdb643e660bb2", func := "loop.example/g00567/laws.FnStoreRuns", spec := "fnStoreRuns", unfollowed := true, recurses := true, plainKeys := false, apart := false, narrowed := true }
def FnStoreRunsUptoSaid : Prop := fnStoreRunsUptoRow.holds Try.pinned (OpenSpec.upto fnStoreRunsSpec)

/-- 'laws.FnAccepted', WHERE WHAT IT READS IS OF BULK AT MOST 1048576: true; the input reads as it did. -/
def fnAcceptedUptoRow : OpenClaim := { program := "ytfebeafonifpdaa", sum := "5fe1df216c94683f01539ec8404bd70e1af86e52ee960722ba1bdb643e660bb2", func := "loop.example/g00567/laws.FnAccepted", spec := "fnAccepted", unfollowed := true, recurses := true, plainKeys := false, apart := false, narrowed := true }
def FnAcceptedUptoSaid : Prop := fnAcceptedUptoRow.holds Try.pinned (OpenSpec.upto fnAcceptedSpec)

/-- 'laws.FnExactCmdOk', WHERE WHAT IT READS IS OF BULK AT MOST 1048576: true; the input reads as it did. -/
def fnExactCmdOkUptoRow : OpenClaim := { program := "ytfebeafonifpdaa", sum := "5fe1df216c94683f01539ec8404bd70e1af86e52ee960722ba1bdb643e660bb2", func := "loop.example/g00567/laws.FnExactCmdOk", spec := "fnExactCmdOk", plainKeys := false, apart := false, narrowed := true }
def FnExactCmdOkUptoSaid : Prop := fnExactCmdOkUptoRow.holds Try.pinned (OpenSpec.upto fnExactCmdOkSpec)

/-- 'laws.FnExactCmdVal', WHERE WHAT IT READS IS OF BULK AT MOST 1048576: true; the input reads as it did. -/
def fnExactCmdValUptoRow : OpenClaim := { program := "ytfebeafonifpdaa", sum := "5fe1df216c94683f01539ec8404bd70e1af86e52ee960722ba1bdb643e660bb2", func := "loop.example/g00567/laws.FnExactCmdVal", spec := "fnExactCmdVal", plainKeys := false, apart := false, narrowed := true }
def FnExactCmdValUptoSaid : Prop := fnExactCmdValUptoRow.holds Try.pinned (OpenSpec.upto fnExactCmdValSpec)

/-- 'laws.FnExactValCmd', WHERE WHAT IT READS IS OF BULK AT MOST 1048576: true; the input reads as it did. -/
def fnExactValCmdUptoRow : OpenClaim := { program := "ytfebeafonifpdaa", sum := "5fe1df216c94683f01539ec8404bd70e1af86e52ee960722ba1bdb643e660bb2", func := "loop.example/g00567/laws.FnExactValCmd", spec := "fnExactValCmd", plainKeys := false, apart := false, narrowed := true }
def FnExactValCmdUptoSaid : Prop := fnExactValCmdUptoRow.holds Try.pinned (OpenSpec.upto fnExactValCmdSpec)

/-- 'laws.FnExactStoreNew', WHERE WHAT IT READS IS OF BULK AT MOST 1048576: true; the input reads as it did. -/
def fnExactStoreNewUptoRow : OpenClaim := { program := "ytfebeafonifpdaa", sum := "5fe1df216c94683f01539ec8404bd70e1af86e52ee960722ba1bdb643e660bb2", func := "loop.example/g00567/laws.FnExactStoreNew", spec := "fnExactStoreNew", plainKeys := false, apart := false, narrowed := true }
def FnExactStoreNewUptoSaid : Prop := fnExactStoreNewUptoRow.holds Try.pinned (OpenSpec.upto fnExactStoreNewSpec)

/-- 'laws.FnExactStoreOk', WHERE WHAT IT READS IS OF BULK AT MOST 1048576: true; the input reads as it did. -/
def fnExactStoreOkUptoRow : OpenClaim := { program := "ytfebeafonifpdaa", sum := "5fe1df216c94683f01539ec8404bd70e1af86e52ee960722ba1bdb643e660bb2", func := "loop.example/g00567/laws.FnExactStoreOk", spec := "fnExactStoreOk", unfollowed := true, recurses := true, plainKeys := false, apart := false, narrowed := true }
def FnExactStoreOkUptoSaid : Prop := fnExactStoreOkUptoRow.holds Try.pinned (OpenSpec.upto fnExactStoreOkSpec)

/-- 'laws.FnExactStoreDo', WHERE WHAT IT READS IS OF BULK AT MOST 1048576: true; the input reads as it did. -/
def fnExactStoreDoUptoRow : OpenClaim := { program := "ytfebeafonifpdaa", sum := "5fe1df216c94683f01539ec8404bd70e1af86e52ee960722ba1bdb643e660bb2", func := "loop.example/g00567/laws.FnExactStoreDo", spec := "fnExactStoreDo", unfollowed := true, recurses := true, plainKeys := false, apart := false, narrowed := true }
def FnExactStoreDoUptoSaid : Prop := fnExactStoreDoUptoRow.holds Try.pinned (OpenSpec.upto fnExactStoreDoSpec)

/-- 'laws.FnExactStoreRun', WHERE WHAT IT READS IS OF BULK AT MOST 1048576: true; the input reads as it did. -/
def fnExactStoreRunUptoRow : OpenClaim := { program := "ytfebeafonifpdaa", sum := "5fe1df216c94683f01539ec8404bd70e1af86e52ee960722ba1bdb643e660bb2", func := "loop.example/g00567/laws.FnExactStoreRun", spec := "fnExactStoreRun", unfollowed := true, recurses := true, plainKeys := false, apart := false, narrowed := true }
def FnExactStoreRunUptoSaid : Prop := fnExactStoreRunUptoRow.holds Try.pinned (OpenSpec.upto fnExactStoreRunSpec)

/-- 'laws.FnExactAccepted', WHERE WHAT IT READS IS OF BULK AT MOST 1048576: true; the input reads as it did. -/
def fnExactAcceptedUptoRow : OpenClaim := { program := "ytfebeafonifpdaa", sum := "5fe1df216c94683f01539ec8404bd70e1af86e52ee960722ba1bdb643e660bb2", func := "loop.example/g00567/laws.FnExactAccepted", spec := "fnExactAccepted", unfollowed := true, recurses := true, plainKeys := false, apart := false, narrowed := true }
def FnExactAcceptedUptoSaid : Prop := fnExactAcceptedUptoRow.holds Try.pinned (OpenSpec.upto fnExactAcceptedSpec)

/-- 'laws.FnExactStoreSame', WHERE WHAT IT READS IS OF BULK AT MOST 1048576: true; the input reads as it did. -/
def fnExactStoreSameUptoRow : OpenClaim := { program := "ytfebeafonifpdaa", sum := "5fe1df216c94683f01539ec8404bd70e1af86e52ee960722ba1bdb643e660bb2", func := "loop.example/g00567/laws.FnExactStoreSame", spec := "fnExactStoreSame", unfollowed := true, recurses := true, plainKeys := false, apart := false, narrowed := true }
def FnExactStoreSameUptoSaid : Prop := fnExactStoreSameUptoRow.holds Try.pinned (OpenSpec.upto fnExactStoreSameSpec)

/-- 'laws.FnExactUndo', WHERE WHAT IT READS IS OF BULK AT MOST 1048576: true; the input reads as it did. -/
def fnExactUndoUptoRow : OpenClaim := { program := "ytfebeafonifpdaa", sum := "5fe1df216c94683f01539ec8404bd70e1af86e52ee960722ba1bdb643e660bb2", func := "loop.example/g00567/laws.FnExactUndo", spec := "fnExactUndo", unfollowed := true, recurses := true, plainKeys := false, apart := false, narrowed := true }
def FnExactUndoUptoSaid : Prop := fnExactUndoUptoRow.holds Try.pinned (OpenSpec.upto fnExactUndoSpec)

end Rows
end Go.Proofs.Ytfebeafonifpdaa
