/-
  What VotesOk of the model answers: its contract. No statement is proved here.
-/
import Derived.Test.YtaegcdbgnjlbdaaVotesOk
set_option linter.unusedVariables false
set_option maxRecDepth 100000
namespace Go.Proofs.Ytaegcdbgnjlbdaa.V
open Go.RowKit Go.Proofs.Ytaegcdbgnjlbdaa.B

end Go.Proofs.Ytaegcdbgnjlbdaa.V
