/-
  What is chosen, and what the functions on reports that the document lists answer, of the model: contracts. No statement is proved here.
-/
import Derived.Test.YtcfjmhebhhekbaaSpecSafe
set_option linter.unusedVariables false
set_option maxRecDepth 100000
namespace Go.Proofs.Ytcfjmhebhhekbaa.V
open Go.RowKit Go.Proofs.Ytcfjmhebhhekbaa.B

theorem best_step (g : Int → Int) (ok : Int → Bool) (k : Nat) : best g ok (k + 1) = if (best g ok k).2 < g (k + 1 : Nat) && ok (k + 1 : Nat) then (((k + 1 : Nat) : Int), g (k + 1 : Nat)) else best g ok k := rfl
end Go.Proofs.Ytcfjmhebhhekbaa.V
