/-
  Faults, Strong, Weak and Open of the model: contracts. No statement is proved here.
-/
import Derived.Test.YtfebeafonifpdaaTallySilent
set_option linter.unusedVariables false
set_option maxRecDepth 100000
namespace Go.Proofs.Ytfebeafonifpdaa.V
open Go.RowKit Go.Proofs.Ytfebeafonifpdaa.B

def faultsR (n : Int) : Int := if sizeB n then n.tdiv 3 else -1
def strongR (n : Int) : Int := if sizeB n then n - n.tdiv 3 else -1
def weakR (n : Int) : Int := if sizeB n then n.tdiv 3 + 1 else -1
theorem size_two {n : Int} (h : sizeB n = true) : n = 4 ∨ n = 7 := by simpa [sizeB] using h

theorem specWeak_any (n : Int) (w : World) : Calls Try.prog 35 #[.int .i64 n] w fun e w' => e = .returned (.int .i64 (weakR n)) ∧ w' = w := by
  rcases hs : sizeB n with _ | _
  · go_enter Try.func35, Try.ntmps35
    go_wp2_with (go_at_call 83; refine (specSize_is n false hs _).mono ?_; rintro e w0 ⟨rfl, rfl⟩)
    go_ret
    exact ⟨ret_int (by simp [weakR, hs]), rfl⟩
  · rcases size_two hs with rfl | rfl
    all_goals
      go_enter Try.func35, Try.ntmps35
      go_wp2_with (first | (go_at_call 83; refine (specSize_is _ true hs _).mono ?_; rintro e w0 ⟨rfl, rfl⟩) | go_in)
      go_ret
      exact ⟨ret_int (by simp [weakR, hs]), rfl⟩

def openF (n : Int) (vs : List B3) (view : Int) (k : Nat) : Bool := decide (strongR n ≤ (cntB vs view (k : Int) : Int) + ((silentR n vs view).length : Int))
def openR (n : Int) (vs : List B3) (view : Int) : Bool := sizeB n && (tallyOkB vs && (winN (openF n vs view) 1 60).isSome)
theorem cntB_le (vs : List B3) (view val : Int) : cntB vs view val ≤ vs.length := List.length_filter_le _ _

end Go.Proofs.Ytfebeafonifpdaa.V
