/-
  No cell of these rows narrows 'for every input' (looked for: loops, veiled, ifaces, maps, wideKeys, modest, calm, conditions, laid).
  DERIVED. THE GIVEN ROWS OF THIS SEAT. 4 by the template 'for every input the law returns true; each argument reads behind the call as it read before'; 0 by the template 'total and deterministic' (their statements: YtfdfjmibjnmhpaaGreatTotals.lean).
  GIVEN WITH THE SEED: the statements are not yours to turn. If you find one false, say at which input.
  Laid BY PROGRAM, IN A SANDBOX (cutbox-rows.mjs): the forced cells as the released guide's own fill.sh prints them over the translation 9705b581bf11623d… (all of the seat's roots in one cut). By AI agents, Wed Nov 11 2026. No macro, syntax, notation, axiom, sorry.
-/
import Derived.Test.YtfdfjmibjnmhpaaGreatChecked
import GoSem.Claim
import GoSem.ClaimJoined
import GoSem.ClaimMapViews
import Derived.JoinedTies
import Derived.KernelRfl
namespace Go.Proofs.YtfdfjmibjnmhpaaGreat
/- THE CELL 'sum', in the pinned program and in every row, IS THE sha256 OF THE DUMP (.gsa) THAT YtfdfjmibjnmhpaaGreatProg.lean LOADS. Nothing in Lean hashes anything: it is a label: what it is worth is what the hold of that sum in a sandbox is worth. -/
noncomputable def Tryz.pinned : Pinned := { name := "ytfdfjmibjnmhpaagreat", sum := "9705b581bf11623dba6f338f8a46e3eb4f5b9c839901d542741bc9db1baedde4", checked := Tryz.checked }
namespace Rows
def none {H : Type} : Left H := { results := [], args := [] }

/-- 'laws.FnExactHonest': WHATEVER THE INPUT: true; the input reads as it did. -/
def fnExactHonestSpec : ChangeSpec := { name := "fnExactHonest", fn := fun _ => fun
  | [d] => { results := [.lit (.bool true)], args := [d] }
  | _ => none }
def fnExactHonestRow : OpenClaim := { program := "ytfdfjmibjnmhpaagreat", sum := "9705b581bf11623dba6f338f8a46e3eb4f5b9c839901d542741bc9db1baedde4", func := "loop.example/g00567/laws.FnExactHonest", spec := "fnExactHonest", unfollowed := true, recurses := true, apart := false }
def FnExactHonestSaid : Prop := fnExactHonestRow.holds Tryz.pinned (OpenSpec.ofChange fnExactHonestSpec)

/-- ITS FALSE NEIGHBOUR: 'it returns false'. Refute it at one input. -/
def fnExactHonestWrong : ChangeSpec := { name := "fnExactHonest", fn := fun _ => fun
  | [d] => { results := [.lit (.bool false)], args := [d] }
  | _ => none }
def FnExactHonestWrongFalsely : Prop := fnExactHonestRow.holds Tryz.pinned (OpenSpec.ofChange fnExactHonestWrong)

/-- 'laws.FnExactOnLink': WHATEVER THE INPUT: true; the input reads as it did. -/
def fnExactOnLinkSpec : ChangeSpec := { name := "fnExactOnLink", fn := fun _ => fun
  | [d1, d2, d3] => { results := [.lit (.bool true)], args := [d1, d2, d3] }
  | _ => none }
def fnExactOnLinkRow : OpenClaim := { program := "ytfdfjmibjnmhpaagreat", sum := "9705b581bf11623dba6f338f8a46e3eb4f5b9c839901d542741bc9db1baedde4", func := "loop.example/g00567/laws.FnExactOnLink", spec := "fnExactOnLink", unfollowed := true, recurses := true, apart := false }
def FnExactOnLinkSaid : Prop := fnExactOnLinkRow.holds Tryz.pinned (OpenSpec.ofChange fnExactOnLinkSpec)

/-- ITS FALSE NEIGHBOUR: 'it returns false'. Refute it at one input. -/
def fnExactOnLinkWrong : ChangeSpec := { name := "fnExactOnLink", fn := fun _ => fun
  | [d1, d2, d3] => { results := [.lit (.bool false)], args := [d1, d2, d3] }
  | _ => none }
def FnExactOnLinkWrongFalsely : Prop := fnExactOnLinkRow.holds Tryz.pinned (OpenSpec.ofChange fnExactOnLinkWrong)

/-- 'laws.FnExactSplit': WHATEVER THE INPUT: true; the input reads as it did. -/
def fnExactSplitSpec : ChangeSpec := { name := "fnExactSplit", fn := fun _ => fun
  | [d1, d2] => { results := [.lit (.bool true)], args := [d1, d2] }
  | _ => none }
def fnExactSplitRow : OpenClaim := { program := "ytfdfjmibjnmhpaagreat", sum := "9705b581bf11623dba6f338f8a46e3eb4f5b9c839901d542741bc9db1baedde4", func := "loop.example/g00567/laws.FnExactSplit", spec := "fnExactSplit", unfollowed := true, recurses := true, apart := false }
def FnExactSplitSaid : Prop := fnExactSplitRow.holds Tryz.pinned (OpenSpec.ofChange fnExactSplitSpec)

/-- ITS FALSE NEIGHBOUR: 'it returns false'. Refute it at one input. -/
def fnExactSplitWrong : ChangeSpec := { name := "fnExactSplit", fn := fun _ => fun
  | [d1, d2] => { results := [.lit (.bool false)], args := [d1, d2] }
  | _ => none }
def FnExactSplitWrongFalsely : Prop := fnExactSplitRow.holds Tryz.pinned (OpenSpec.ofChange fnExactSplitWrong)

/-- 'laws.FnExactViews': WHATEVER THE INPUT: true; the input reads as it did. -/
def fnExactViewsSpec : ChangeSpec := { name := "fnExactViews", fn := fun _ => fun
  | [d] => { results := [.lit (.bool true)], args := [d] }
  | _ => none }
def fnExactViewsRow : OpenClaim := { program := "ytfdfjmibjnmhpaagreat", sum := "9705b581bf11623dba6f338f8a46e3eb4f5b9c839901d542741bc9db1baedde4", func := "loop.example/g00567/laws.FnExactViews", spec := "fnExactViews", unfollowed := true, recurses := true, apart := false }
def FnExactViewsSaid : Prop := fnExactViewsRow.holds Tryz.pinned (OpenSpec.ofChange fnExactViewsSpec)

/-- ITS FALSE NEIGHBOUR: 'it returns false'. Refute it at one input. -/
def fnExactViewsWrong : ChangeSpec := { name := "fnExactViews", fn := fun _ => fun
  | [d] => { results := [.lit (.bool false)], args := [d] }
  | _ => none }
def FnExactViewsWrongFalsely : Prop := fnExactViewsRow.holds Tryz.pinned (OpenSpec.ofChange fnExactViewsWrong)

/- THE SECOND FORM. 'bulk': how many values and letters a reading holds, each counted each time it is reached (what is shared counts as often as it is met; a slice's spare places count too). A statement '..UptoSaid' is the law's where the arguments, and the package variables that the reading takes, are together of bulk at most 1048576: NARROWER than '..Said'. Prove '..Said' where nothing that the law and all that it calls make is longer than what came in: it says more and counts as full. Else prove '..UptoSaid'. A law counts once. -/
mutual
def uptoBulk {H : Type} : DataW H → Nat
  | .lit (.string bytes) => bytes.length + 1
  | .lit _ => 1
  | .nil => 1
  | .ptr d => uptoBulk d + 1
  | .slice elems spare => uptoBulkAll elems + uptoBulkAll spare + 1
  | .agg parts => uptoBulkAll parts + 1
  | .iface _ d => uptoBulk d + 1
  | .map entries => uptoBulkEntries entries + 1
  | .held _ => 1
def uptoBulkAll {H : Type} : List (DataW H) → Nat
  | [] => 0
  | d :: r => uptoBulk d + uptoBulkAll r
def uptoBulkEntries {H : Type} : List (Lit × DataW H) → Nat
  | [] => 0
  | x :: r => uptoBulkEntry x + uptoBulkEntries r
def uptoBulkEntry {H : Type} : Lit × DataW H → Nat
  | (.string bytes, d) => bytes.length + uptoBulk d + 1
  | (_, d) => uptoBulk d + 1
 end
def uptoSmall : (H : Type) → List (DataW H) → Bool := fun _ ds => decide (uptoBulkAll ds ≤ 1048576)
def OpenSpec.upto (s : _root_.Go.ChangeSpec) : _root_.Go.OpenSpec := { _root_.Go.OpenSpec.ofChange s with cond := some uptoSmall }

/-- 'laws.FnExactHonest', WHERE WHAT IT READS IS OF BULK AT MOST 1048576: true; the input reads as it did. -/
def fnExactHonestUptoRow : OpenClaim := { program := "ytfdfjmibjnmhpaagreat", sum := "9705b581bf11623dba6f338f8a46e3eb4f5b9c839901d542741bc9db1baedde4", func := "loop.example/g00567/laws.FnExactHonest", spec := "fnExactHonest", unfollowed := true, recurses := true, apart := false, narrowed := true }
def FnExactHonestUptoSaid : Prop := fnExactHonestUptoRow.holds Tryz.pinned (OpenSpec.upto fnExactHonestSpec)

/-- 'laws.FnExactOnLink', WHERE WHAT IT READS IS OF BULK AT MOST 1048576: true; the input reads as it did. -/
def fnExactOnLinkUptoRow : OpenClaim := { program := "ytfdfjmibjnmhpaagreat", sum := "9705b581bf11623dba6f338f8a46e3eb4f5b9c839901d542741bc9db1baedde4", func := "loop.example/g00567/laws.FnExactOnLink", spec := "fnExactOnLink", unfollowed := true, recurses := true, apart := false, narrowed := true }
def FnExactOnLinkUptoSaid : Prop := fnExactOnLinkUptoRow.holds Tryz.pinned (OpenSpec.upto fnExactOnLinkSpec)

/-- 'laws.FnExactSplit', WHERE WHAT IT READS IS OF BULK AT MOST 1048576: true; the input reads as it did. -/
def fnExactSplitUptoRow : OpenClaim := { program := "ytfdfjmibjnmhpaagreat", sum := "9705b581bf11623dba6f338f8a46e3eb4f5b9c839901d542741bc9db1baedde4", func := "loop.example/g00567/laws.FnExactSplit", spec := "fnExactSplit", unfollowed := true, recurses := true, apart := false, narrowed := true }
def FnExactSplitUptoSaid : Prop := fnExactSplitUptoRow.holds Tryz.pinned (OpenSpec.upto fnExactSplitSpec)

/-- 'laws.FnExactViews', WHERE WHAT IT READS IS OF BULK AT MOST 1048576: true; the input reads as it did. -/
def fnExactViewsUptoRow : OpenClaim := { program := "ytfdfjmibjnmhpaagreat", sum := "9705b581bf11623dba6f338f8a46e3eb4f5b9c839901d542741bc9db1baedde4", func := "loop.example/g00567/laws.FnExactViews", spec := "fnExactViews", unfollowed := true, recurses := true, apart := false, narrowed := true }
def FnExactViewsUptoSaid : Prop := fnExactViewsUptoRow.holds Tryz.pinned (OpenSpec.upto fnExactViewsSpec)

end Rows
end Go.Proofs.YtfdfjmibjnmhpaaGreat
