/-
  What MsgOk answers, of the model and of the program: contracts. No statement is proved here.
-/
import Derived.Test.YtaegcdbgnjlbdaaVotes
import Derived.Test.YtaegcdbgnjlbdaaVotesOkSpec
import Derived.Test.YtaegcdbgnjlbdaaVotesOkImpl
import Derived.Deep.RegionWith
set_option linter.unusedVariables false
set_option maxRecDepth 100000
namespace Go.Proofs.Ytaegcdbgnjlbdaa.V
open Go.RowKit Go.Proofs.Ytaegcdbgnjlbdaa.B

def lockOkB (a b below : Int) : Bool := decide (b = 0 ∧ a = 0) || (valOkB b && decide (0 ≤ a ∧ a < below))
def msgOkB (k v x a b : Int) (vs : List (Int × Int)) : Bool :=
  decide (0 ≤ k ∧ k ≤ 4) && viewOkB v && (if k = 3 then decide (x = 0 ∧ 1 ≤ v) && votesOkB vs v && lockOkB a b v else valOkB x && decide (a = 0 ∧ b = 0) && decide (vs.length = 0) && (decide (k ≠ 4) || decide (v = 0)))

end Go.Proofs.Ytaegcdbgnjlbdaa.V
