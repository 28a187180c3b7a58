/-
  What the functions on reports that the document lists answer, of the model: contracts. No statement is proved here.
-/
import Derived.Test.YtcfjmhebhhekbaaSpecCh
set_option linter.unusedVariables false
set_option maxRecDepth 100000
namespace Go.Proofs.Ytcfjmhebhhekbaa.V
open Go.RowKit Go.Proofs.Ytcfjmhebhhekbaa.B


def witT (n view : Int) (rs : List Rp) (val from_ : Int) : Int := if repsOkB n view rs then (wit rs val from_ : Int) else 0
def groundsT (n view : Int) (rs : List Rp) (val : Int) : Int := if repsOkB n view rs then groundsR n view rs val else -1
def freeT (n view : Int) (rs : List Rp) : Bool := repsOkB n view rs && freeR n rs
def safeT (n view : Int) (rs : List Rp) (val : Int) : Bool := repsOkB n view rs && (valOkB val && safeR n view rs val)
def chooseT (n view : Int) (rs : List Rp) (own : Int) : Int × Bool := if repsOkB n view rs && valOkB own then chooseR n view rs own else (0, false)
def unbT (n view : Int) (rs : List Rp) : Int := if repsOkB n view rs then (unbR rs : Int) else -1
def supT (n view : Int) (rs : List Rp) (val : Int) : Int := if repsOkB n view rs && valOkB val then (supR (groundsR n view rs val) val rs : Int) else -1
theorem reps_size {n view : Int} {rs : List Rp} (h : repsOkB n view rs = true) : sizeB n = true ∧ viewR view = true := by
  unfold repsOkB at h
  simp only [Bool.and_eq_true] at h
  exact h.2

end Go.Proofs.Ytcfjmhebhhekbaa.V
