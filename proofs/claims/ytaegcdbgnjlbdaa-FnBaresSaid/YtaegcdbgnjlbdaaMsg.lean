/-
  What the helpers of the laws do with messages: contracts of szMsg, toMsg and eqMsg. No statement is proved here.
-/
import Derived.Test.YtaegcdbgnjlbdaaVotes
set_option linter.unusedVariables false
set_option maxRecDepth 100000
namespace Go.Proofs.Ytaegcdbgnjlbdaa.V
open Go.RowKit Go.Proofs.Ytaegcdbgnjlbdaa.B

end Go.Proofs.Ytaegcdbgnjlbdaa.V
