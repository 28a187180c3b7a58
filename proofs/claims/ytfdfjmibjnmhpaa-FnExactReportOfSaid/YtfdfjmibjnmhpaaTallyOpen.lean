/-
  Faults, Strong, Weak and Open of the model: contracts. No statement is proved here.
-/
import Derived.Test.YtfdfjmibjnmhpaaTallySilent
set_option linter.unusedVariables false
set_option maxRecDepth 100000
namespace Go.Proofs.Ytfdfjmibjnmhpaa.V
open Go.RowKit Go.Proofs.Ytfdfjmibjnmhpaa.B

def faultsR (n : Int) : Int := if sizeB n then n.tdiv 3 else -1
def strongR (n : Int) : Int := if sizeB n then n - n.tdiv 3 else -1
def weakR (n : Int) : Int := if sizeB n then n.tdiv 3 + 1 else -1
theorem size_two {n : Int} (h : sizeB n = true) : n = 4 ∨ n = 7 := by simpa [sizeB] using h

def openF (n : Int) (vs : List B3) (view : Int) (k : Nat) : Bool := decide (strongR n ≤ (cntB vs view (k : Int) : Int) + ((silentR n vs view).length : Int))
def openR (n : Int) (vs : List B3) (view : Int) : Bool := sizeB n && (tallyOkB vs && (winN (openF n vs view) 1 60).isSome)
theorem cntB_le (vs : List B3) (view val : Int) : cntB vs view val ≤ vs.length := List.length_filter_le _ _

end Go.Proofs.Ytfdfjmibjnmhpaa.V
