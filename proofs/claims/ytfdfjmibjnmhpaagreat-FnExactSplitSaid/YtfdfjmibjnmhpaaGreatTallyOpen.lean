/-
  Faults, Strong, Weak and Open of the model: contracts. No statement is proved here.
-/
import Derived.Test.YtfdfjmibjnmhpaaGreatSizes
import Derived.Test.YtfdfjmibjnmhpaaGreatTallySilent
set_option linter.unusedVariables false
set_option maxRecDepth 100000
namespace Go.Proofs.YtfdfjmibjnmhpaaGreat.V
open Go.RowKit Go.Proofs.YtfdfjmibjnmhpaaGreat.B

def openF (n : Int) (vs : List B3) (view : Int) (k : Nat) : Bool := decide (strongR n ≤ (cntB vs view (k : Int) : Int) + ((silentR n vs view).length : Int))
def openR (n : Int) (vs : List B3) (view : Int) : Bool := sizeB n && (tallyOkB vs && (winN (openF n vs view) 1 60).isSome)
theorem cntB_le (vs : List B3) (view val : Int) : cntB vs view val ≤ vs.length := List.length_filter_le _ _

end Go.Proofs.YtfdfjmibjnmhpaaGreat.V
