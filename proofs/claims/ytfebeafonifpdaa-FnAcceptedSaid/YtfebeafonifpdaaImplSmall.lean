/-
  SizeOk, Faults, Strong and Weak of the program: contracts. No statement is proved here.
-/
import Derived.Test.YtfebeafonifpdaaTallyOpen
set_option linter.unusedVariables false
set_option maxRecDepth 100000
namespace Go.Proofs.Ytfebeafonifpdaa.V
open Go.RowKit Go.Proofs.Ytfebeafonifpdaa.B

theorem implSize_any (n : Int) (w : World) : Calls Try.prog 76 #[.int .i64 n] w fun e w' => e = .returned (.bool (sizeB n)) ∧ w' = w := by
  unfold sizeB
  by_cases h1 : n = 4
  · subst h1
    go_enter Try.func76, Try.ntmps76
    go_wp2
    go_ret
    exact ⟨rfl, rfl⟩
  · have hf : (n == 4) = false := by simpa using h1
    by_cases h2 : n = 7
    · subst h2
      go_enter Try.func76, Try.ntmps76
      go_wp2
      go_ret
      exact ⟨rfl, rfl⟩
    · have hf2 : (n == 7) = false := by simpa using h2
      go_enter Try.func76, Try.ntmps76
      go_wp2
      go_ret
      exact ⟨ret_boolB (by simp [h1, h2]), rfl⟩
theorem implSize_is (n : Int) (q : Bool) (h : sizeB n = q) (w : World) : Calls Try.prog 76 #[.int .i64 n] w fun e w' => e = .returned (.bool q) ∧ w' = w := by
  rw [← h]; exact implSize_any n w
theorem implFaults_any (n : Int) (w : World) : Calls Try.prog 102 #[.int .i64 n] w fun e w' => e = .returned (.int .i64 (faultsR n)) ∧ w' = w := by
  rcases hs : sizeB n with _ | _
  · go_enter Try.func102, Try.ntmps102
    go_wp2_with (go_at_call 76; refine (implSize_is n false hs _).mono ?_; rintro e w0 ⟨rfl, rfl⟩)
    go_ret
    exact ⟨ret_int (by simp [faultsR, hs] <;> (unfold wrap64; omega)), rfl⟩
  · rcases size_two hs with rfl | rfl
    all_goals
      go_enter Try.func102, Try.ntmps102
      go_wp2_with (go_at_call 76; refine (implSize_is _ true hs _).mono ?_; rintro e w0 ⟨rfl, rfl⟩)
      go_ret
      exact ⟨ret_int (by simp [faultsR, hs] <;> (unfold wrap64; omega)), rfl⟩
theorem implWeak_any (n : Int) (w : World) : Calls Try.prog 82 #[.int .i64 n] w fun e w' => e = .returned (.int .i64 (weakR n)) ∧ w' = w := by
  rcases hs : sizeB n with _ | _
  · go_enter Try.func82, Try.ntmps82
    go_wp2_with (go_at_call 76; refine (implSize_is n false hs _).mono ?_; rintro e w0 ⟨rfl, rfl⟩)
    go_ret
    exact ⟨ret_int (by simp [weakR, hs]), rfl⟩
  · rcases size_two hs with rfl | rfl
    all_goals
      go_enter Try.func82, Try.ntmps82
      go_wp2_with (first | (go_at_call 76; refine (implSize_is _ true hs _).mono ?_; rintro e w0 ⟨rfl, rfl⟩) | (go_at_call 102; refine (implFaults_any _ _).mono ?_; rintro e w0 ⟨rfl, rfl⟩) | go_in)
      go_ret
      exact ⟨ret_int (by simp [weakR, faultsR, hs] <;> (unfold wrap64; omega)), rfl⟩
end Go.Proofs.Ytfebeafonifpdaa.V
